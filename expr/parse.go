package expr

import "bastion/api"

// The words that mean something where they can stand, beside the operators.
const (
	wordOr    = "or"
	wordAnd   = "and"
	wordNot   = "not"
	wordOpen  = "("
	wordClose = ")"
)

// parser takes a row of words off, from the left.
type parser struct {
	rest  []string
	depth int // how many not and ( stand around what comes next
}

// whole is the condition that all words that are left make.
func (p *parser) whole() (condition, api.Errno) {
	c, e := p.condition()
	if e != api.OK {
		return nil, e
	}
	if len(p.rest) > 0 {
		return nil, api.ErrForm
	}
	return c, api.OK
}

func (p *parser) condition() (condition, api.Errno) { return joined(p, p.part, wordOr) }

func (p *parser) part() (part, api.Errno) { return joined(p, p.term, wordAnd) }

// joined takes one or more things off, with a word between each two.
func joined[T any](p *parser, one func() (T, api.Errno), between string) ([]T, api.Errno) {
	var all []T
	for {
		x, e := one()
		if e != api.OK {
			return nil, e
		}
		all = append(all, x)
		if !p.take(between) {
			return all, api.OK
		}
	}
}

// term takes a term off. A comparison is looked for first: its left text may be a not, or a (.
func (p *parser) term() (node, api.Errno) {
	if c, is := p.comparison(); is {
		return c, api.OK
	}
	if p.take(wordNot) {
		return p.within(p.negation)
	}
	if p.take(wordOpen) {
		return p.within(p.bracketed)
	}
	return nil, api.ErrForm
}

// comparison takes a comparison off, if one stands next.
func (p *parser) comparison() (comparison, bool) {
	if len(p.rest) < 3 {
		return comparison{}, false
	}
	by := opOf(p.rest[1])
	if by == noOp {
		return comparison{}, false
	}
	c := comparison{left: p.rest[0], by: by, right: p.rest[2]}
	p.rest = p.rest[3:]
	return c, true
}

// within takes off what stands behind a not, or a (, that may itself be too deep.
func (p *parser) within(inner func() (node, api.Errno)) (node, api.Errno) {
	if p.depth == MaxDepth {
		return nil, api.ErrDeep
	}
	p.depth++
	n, e := inner()
	p.depth--
	return n, e
}

// negation takes off what stands behind a not.
func (p *parser) negation() (node, api.Errno) {
	n, e := p.term()
	if e != api.OK {
		return nil, e
	}
	return negation{of: n}, api.OK
}

// bracketed takes off what stands behind a (, up to its ).
func (p *parser) bracketed() (node, api.Errno) {
	c, e := p.condition()
	if e != api.OK {
		return nil, e
	}
	if !p.take(wordClose) {
		return nil, api.ErrForm
	}
	return c, api.OK
}

// take takes the next word off, if it is this one.
func (p *parser) take(word string) bool {
	if len(p.rest) == 0 || p.rest[0] != word {
		return false
	}
	p.rest = p.rest[1:]
	return true
}
