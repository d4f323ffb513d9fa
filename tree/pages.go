package tree

import (
	"maps"
	"slices"

	"bastion/api"
	"bastion/freemap"
	"bastion/node"
)

// pages is what stands on pages, and what did, where that has changed. No node that stands, or stood, is written to: what changes is a copy.
type pages struct {
	free *freemap.Map
	now  map[int]*node.Node // of each page that is used
	was  map[int]*node.Node // of each page on which something else stands now; nil of one that was not used
}

// newPages is n pages, none of them used.
func newPages(n int) (pages, api.Errno) {
	free, e := freemap.New(n)
	return pages{free: free, now: make(map[int]*node.Node), was: make(map[int]*node.Node)}, e
}

// lay lets n stand on the page no from now on; if it is nil, that page is not used any more.
func (p *pages) lay(no int, n *node.Node) {
	was, changed := p.was[no]
	if !changed {
		was = p.now[no]
	}
	if same(was, n) {
		delete(p.was, no)
	} else {
		p.was[no] = was
	}
	// That the page is taken already, or free, is as good here.
	if n == nil {
		delete(p.now, no)
		p.free.Drop(no)
		return
	}
	p.now[no] = n
	p.free.Claim(no)
}

// add lets n stand on the least page that is not used; there must be one.
func (p *pages) add(n node.Node) int {
	no, _ := p.free.Take()
	p.lay(no, &n)
	return no
}

// change lets f change a copy of what stands on the page no, which stands there then.
func (p *pages) change(no int, f func(n *node.Node)) {
	n := copied(p.now[no])
	f(&n)
	p.lay(no, &n)
}

// dirty is the pages that are used, and on which something else stands than did, rising.
func (p *pages) dirty() []Page {
	var l []Page
	for _, no := range slices.Sorted(maps.Keys(p.was)) {
		if n := p.now[no]; n != nil {
			data, _ := node.Encode(*n)
			l = append(l, Page{no, data})
		}
	}
	return l
}

// clean says that nothing has changed.
func (p *pages) clean() { p.was = make(map[int]*node.Node) }

// back lets stand again what stood when nothing had changed.
func (p *pages) back() {
	was := p.was
	p.clean()
	for no, n := range was {
		p.lay(no, n)
	}
	p.clean()
}

// copied is a node like n, whose lists are its own.
func copied(n *node.Node) node.Node {
	return node.Node{
		Leaf:   n.Leaf,
		Keys:   slices.Clone(n.Keys),
		Values: slices.Clone(n.Values),
		Kids:   slices.Clone(n.Kids),
	}
}

// same tells whether a and b are the same node, or both none.
func same(a, b *node.Node) bool {
	if a == nil || b == nil {
		return a == b
	}
	return a.Leaf == b.Leaf && slices.Equal(a.Keys, b.Keys) && slices.Equal(a.Values, b.Values) && slices.Equal(a.Kids, b.Kids)
}
