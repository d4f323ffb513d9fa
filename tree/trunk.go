package tree

import (
	"slices"

	"bastion/api"
	"bastion/node"
)

// noRoot is the root of a tree without pairs.
const noRoot = -1

// trunk is the pages of a tree, and where it begins.
type trunk struct {
	pages
	top
	wasTop top // when nothing had changed
}

// top is the root, and how many pairs are come to from there.
type top struct{ root, count int }

// step is a page on the way to a leaf, and which of its kids is gone on to.
type step struct{ no, kid int }

// way is the pages from the root to the leaf that has key, or would have it. There must be a root.
func (t *trunk) way(key string) []step {
	var way []step
	no := t.root
	for !t.now[no].Leaf {
		kid := kidOf(t.now[no], key)
		way = append(way, step{no, kid})
		no = t.now[no].Kids[kid]
	}
	return append(way, step{no: no})
}

// leafOf is the page of a way's leaf.
func leafOf(way []step) int { return way[len(way)-1].no }

// kidOf is which kid of n has key, or would have it.
func kidOf(n *node.Node, key string) int {
	i, is := node.Find(*n, key)
	if is {
		return i + 1
	}
	return i
}

// get is the value of key; there must be a root.
func (t *trunk) get(key string) (string, bool) {
	n := t.now[leafOf(t.way(key))]
	i, is := node.Find(*n, key)
	if !is {
		return "", false
	}
	return n.Values[i], true
}

// put puts a pair that may be, where Spare pages are free.
func (t *trunk) put(key, value string) {
	if t.root == noRoot {
		t.root = t.add(node.Node{Leaf: true})
	}
	way := t.way(key)
	if len(way) >= Spare {
		// Each page of the way may be cut in two, and a root be laid above them: the pages for a longer way might be missing.
		t.tidy()
		way = t.way(key)
	}
	t.change(leafOf(way), func(n *node.Node) {
		i, is := node.Find(*n, key)
		if is {
			n.Values[i] = value
			return
		}
		n.Keys = slices.Insert(n.Keys, i, key)
		n.Values = slices.Insert(n.Values, i, value)
		t.count++
	})
	t.mend(way)
}

// del takes out the pair of key; there must be one.
func (t *trunk) del(key string) {
	way := t.way(key)
	t.change(leafOf(way), func(n *node.Node) {
		i, _ := node.Find(*n, key)
		n.Keys = slices.Delete(n.Keys, i, i+1)
		n.Values = slices.Delete(n.Values, i, i+1)
	})
	t.count--
	t.mend(way)
}

// pairs is l, and behind it the pairs from from on, and below to, that are come to from the page no.
func (t *trunk) pairs(l []Pair, no int, from, to string) []Pair {
	n := t.now[no]
	if n.Leaf {
		i, _ := node.Find(*n, from)
		for ; i < len(n.Keys) && below(n.Keys[i], to); i++ {
			l = append(l, Pair{n.Keys[i], n.Values[i]})
		}
		return l
	}
	first := kidOf(n, from)
	for i, kid := range n.Kids[first:] {
		if i > 0 && !below(n.Keys[first+i-1], to) {
			break
		}
		l = t.pairs(l, kid, from, to)
	}
	return l
}

// below tells whether key is below to; if to is empty, all keys are.
func below(key, to string) bool { return to == "" || key < to }

// read takes in the tree that lies on the pages of image from the page root on; false, if that is none.
func (t *trunk) read(root int, image [][]byte) bool {
	t.root = root
	leaves := 0 // how deep they lie, from 1 on; 0, as long as none was seen
	var look func(no, deep int, from, to string) bool
	look = func(no, deep int, from, to string) bool {
		if t.free.Claim(no) != api.OK { // it is no page, or used already
			return false
		}
		n, e := node.Decode(image[no])
		if e != api.OK || !between(n.Keys, from, to) {
			return false
		}
		t.lay(no, &n)
		if n.Leaf {
			if leaves == 0 {
				leaves = deep
			}
			t.count += len(n.Keys)
			return len(n.Keys) > 0 && leaves == deep
		}
		for i, kid := range n.Kids {
			end := to
			if i < len(n.Keys) {
				end = n.Keys[i]
			}
			if !look(kid, deep+1, from, end) {
				return false
			}
			from = end
		}
		return true
	}
	return look(root, 1, "", "")
}

// between tells whether keys that rise are from from on, and below to.
func between(keys []string, from, to string) bool {
	return len(keys) == 0 || keys[0] >= from && below(keys[len(keys)-1], to)
}
