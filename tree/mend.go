package tree

import (
	"slices"

	"bastion/api"
	"bastion/node"
)

// wasteful is how many pages a pair there may be at most.
const wasteful = 3

// A tree that grew here has nowhere two kids of one page, one behind the other, that have room in one block together: each change mends that. Two leaves side by side have three pairs at least then, two other nodes eight kids: so there are far fewer than wasteful pages a pair, and no way is as long as Spare. A tree that was opened may be any; tidy makes such a one of it, and needs no page for it.

// mend lets each page of a way be a node again that fits, from the leaf on, which has changed.
func (t *trunk) mend(way []step) {
	for i := len(way) - 2; i >= 0; i-- {
		was := t.now[way[i].no]
		t.mendKid(way[i].no, way[i].kid)
		if t.now[way[i].no] == was {
			break
		}
	}
	t.mendRoot()
	if len(t.now) > wasteful*t.count {
		t.tidy()
	}
}

// mendKid mends the kid i of the page no, and those beside it.
func (t *trunk) mendKid(no, i int) {
	kid := t.now[no].Kids[i]
	switch n := t.now[kid]; {
	case isEmpty(n):
		t.lay(kid, nil)
		t.change(no, func(n *node.Node) { dropKid(n, i) })
	case node.Size(*n) > api.BlockSize:
		t.split(no, i)
		t.settle(no, i+1)
	}
	t.settle(no, i)
}

// mendRoot mends the root, where all below it is mended.
func (t *trunk) mendRoot() {
	n := t.now[t.root]
	switch {
	case isEmpty(n):
		t.lay(t.root, nil)
		t.root = noRoot
	case node.Size(*n) > api.BlockSize:
		t.root = t.add(node.Node{Kids: []int{t.root}})
		t.split(t.root, 0)
	case len(n.Kids) == 1:
		t.lay(t.root, nil)
		t.root = n.Kids[0]
		t.mendRoot()
	}
}

// isEmpty tells whether n has nothing that could be come to.
func isEmpty(n *node.Node) bool { return len(n.Values) == 0 && len(n.Kids) == 0 }

// dropKid takes the kid i out of n, and a key beside it, if there is one.
func dropKid(n *node.Node, i int) {
	n.Kids = slices.Delete(n.Kids, i, i+1)
	if len(n.Keys) > 0 {
		at := max(i-1, 0)
		n.Keys = slices.Delete(n.Keys, at, at+1)
	}
}

// split cuts the kid i of the page no in two, of which the second is the kid i + 1.
func (t *trunk) split(no, i int) {
	kid := t.now[no].Kids[i]
	left, key, right := halves(t.now[kid])
	t.lay(kid, &left)
	second := t.add(right)
	t.change(no, func(n *node.Node) {
		n.Keys = slices.Insert(n.Keys, i, key)
		n.Kids = slices.Insert(n.Kids, i+1, second)
	})
}

// halves is n, cut in two where the larger part is the smallest.
func halves(n *node.Node) (node.Node, string, node.Node) {
	best, least := 0, 0
	for at := 1; at < len(n.Keys); at++ {
		left, _, right := cut(n, at)
		if size := max(node.Size(left), node.Size(right)); best == 0 || size < least {
			best, least = at, size
		}
	}
	return cut(n, best)
}

// cut is n, cut in two at one of its keys, and that key, from which on the second part is. The parts share the node's lists, but not the room behind their own ends.
func cut(n *node.Node, at int) (left node.Node, key string, right node.Node) {
	left = node.Node{Leaf: n.Leaf, Keys: n.Keys[:at:at]}
	right = node.Node{Leaf: n.Leaf}
	if n.Leaf {
		left.Values = n.Values[:at:at]
		right.Keys, right.Values = n.Keys[at:], n.Values[at:]
	} else {
		left.Kids = n.Kids[: at+1 : at+1]
		right.Keys, right.Kids = n.Keys[at+1:], n.Kids[at+1:]
	}
	return left, n.Keys[at], right
}

// settle joins the kid i of the page no with those beside it, as long as there is room, and tells which kid it is then.
func (t *trunk) settle(no, i int) int {
	for {
		switch {
		case t.join(no, i):
		case t.join(no, i-1):
			i--
		default:
			return i
		}
	}
}

// join makes the kids i and i + 1 of the page no one, if there are both, and room for them in one block, and tells whether it did.
func (t *trunk) join(no, i int) bool {
	n := t.now[no]
	if i < 0 || i+1 >= len(n.Kids) {
		return false
	}
	left, right := n.Kids[i], n.Kids[i+1]
	both := joined(t.now[left], n.Keys[i], t.now[right])
	if !node.Fits(both) {
		return false
	}
	last := len(t.now[left].Kids) - 1
	t.lay(left, &both)
	t.lay(right, nil)
	t.change(no, func(n *node.Node) { dropKid(n, i+1) })
	// Two kids stand side by side now that did not.
	t.settle(left, last)
	return true
}

// joined is the nodes left and right as one; key is from where on right is.
func joined(left *node.Node, key string, right *node.Node) node.Node {
	both := copied(left)
	if !both.Leaf {
		both.Keys = append(both.Keys, key)
	}
	both.Keys = append(both.Keys, right.Keys...)
	both.Values = append(both.Values, right.Values...)
	both.Kids = append(both.Kids, right.Kids...)
	return both
}

// tidy joins all pages of the tree that have room in one block together.
func (t *trunk) tidy() {
	var look func(no int)
	look = func(no int) {
		for _, kid := range t.now[no].Kids {
			look(kid)
		}
		for i := 0; i < len(t.now[no].Kids); i++ {
			i = t.settle(no, i)
		}
	}
	look(t.root)
	t.mendRoot()
}
