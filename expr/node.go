package expr

import "bastion/glob"

// op is how a comparison holds its texts against each other.
type op int

const (
	noOp op = iota // of a word that is no operator
	opSame
	opOther
	opLike
)

// opOf is the operator that a word is.
func opOf(word string) op {
	switch word {
	case "==":
		return opSame
	case "!=":
		return opOther
	case "~":
		return opLike
	}
	return noOp
}

// node is a thing of which a condition is made: one of the types below.
type node any

// condition is its parts; brackets are the condition that stands in them.
type condition []part

// part is its terms.
type part []node

type negation struct{ of node }

type comparison struct {
	left  string
	by    op
	right string
}

// holds tells whether a node holds.
func holds(n node) bool {
	switch n := n.(type) {
	case condition:
		for _, one := range n {
			if holds(one) {
				return true
			}
		}
		return false
	case part:
		for _, one := range n {
			if !holds(one) {
				return false
			}
		}
		return true
	case negation:
		return !holds(n.of)
	case comparison:
		return n.holds()
	}
	return false
}

func (c comparison) holds() bool {
	switch c.by {
	case opSame:
		return c.left == c.right
	case opOther:
		return c.left != c.right
	case opLike:
		return glob.Match(c.right, c.left)
	}
	return false
}

// addTexts puts the texts of a node's comparisons behind a list, in the order in which they stand.
func addTexts(to []string, n node) []string {
	switch n := n.(type) {
	case condition:
		for _, one := range n {
			to = addTexts(to, one)
		}
	case part:
		for _, one := range n {
			to = addTexts(to, one)
		}
	case negation:
		to = addTexts(to, n.of)
	case comparison:
		to = append(to, n.left, n.right)
	}
	return to
}
