package store_test

import (
	"fmt"
	"slices"
	"strings"
	"testing"

	"bastion/api"
	"bastion/node"
)

// leafKeys are a key from each leaf that stands, rising.
func leafKeys(t *testing.T, b *bench) []string {
	t.Helper()
	var l []string
	all := image(t, b.d)
	for _, i := range b.Parts().Pages {
		n, e := node.Decode(all[i])
		if e != api.OK {
			t.Fatalf("the block %d is no page: %d", i, int(e))
		}
		if n.Leaf {
			l = append(l, n.Keys[0])
		}
	}
	slices.Sort(l)
	return l
}

// wide is a store that lies on many pages.
func wide(t *testing.T) *bench {
	t.Helper()
	b := newBench(t, 1000)
	for i := range 600 {
		b.put(t, fmt.Sprintf("%03d%s", i, strings.Repeat("k", 20)), text(60, i))
		if i%60 == 59 {
			b.commit(t)
		}
	}
	return b
}

// P9.2, the table of errors: just so many pages as one group has room for beside the header, and one more: nothing is done then, and what was done in the act is still there, to be undone, or made less.
func TestGreatestGroup(t *testing.T) {
	b := wide(t)
	keys := leafKeys(t, b)
	if len(keys) < 125 {
		t.Fatalf("%d leaves", len(keys))
	}
	for _, n := range []int{118, 119} {
		for _, key := range keys[:n] {
			b.put(t, key, text(60, n))
		}
		writes := b.d.Writes()
		b.commit(t)
		if b.d.Writes()-writes > 2*120+2 {
			t.Errorf("%d writes of %d pages", b.d.Writes()-writes, n)
		}
		b.checkAll(t)
	}
	for _, n := range []int{120, 121, 125} {
		for _, key := range keys[:n] {
			b.put(t, key, text(60, 1000+n))
		}
		writes := b.d.Writes()
		b.d.Cut(0)
		check(t, fmt.Sprintf("Commit of %d pages", n), b.Commit(), api.ErrFull)
		b.d.Cut(noCut)
		if b.d.Writes() != writes || b.d.Dead() {
			t.Errorf("%d writes of an act that is refused, dead: %v", b.d.Writes()-writes, b.d.Dead())
		}
		b.checkAll(t)
		if n == 120 {
			b.put(t, keys[0], b.w.stands[keys[0]])
			b.commit(t)
		} else {
			b.back(t)
		}
		b.checkAll(t)
	}
}

// The table of errors: Commit of too much, of a dead disk.
func TestCommitErrorsInOrder(t *testing.T) {
	b := wide(t)
	for _, key := range leafKeys(t, b) {
		b.put(t, key, "another")
	}
	check(t, "Commit", b.Commit(), api.ErrFull)
	killed(t, b.d)
	check(t, "Commit, dead", b.Commit(), api.ErrDead)
	check(t, "Back, dead", b.Back(), api.ErrDead)
	b.anew(t)
	b.checkAll(t)
}

// P9.2, P9.5: where an act was refused, its long values are there still, and what stood, and went in it, is not freed; Back frees the ones, and a lesser act the others.
func TestRefusedGroupFreesNothing(t *testing.T) {
	b := wide(t)
	b.put(t, "stands", text(3000, 1))
	b.commit(t)
	b.del(t, "stands")
	b.put(t, "put", text(2000, 2))
	keys := leafKeys(t, b)
	for _, key := range keys {
		b.put(t, key, text(60, 5))
	}
	check(t, "Commit", b.Commit(), api.ErrFull)
	b.checkAll(t)
	for _, key := range keys[20:] {
		b.put(t, key, b.w.stands[key])
	}
	b.commit(t)
	b.checkAll(t)
	b.del(t, "put")
	for _, key := range keys {
		b.put(t, key, text(60, 6))
	}
	check(t, "Commit", b.Commit(), api.ErrFull)
	b.back(t)
	b.checkAll(t)
}

// P9.2: what is taken out at once may be more than a group has room for; what is left of the tree is not.
func TestGreatestGone(t *testing.T) {
	b := wide(t)
	for _, key := range b.w.keys("", "") {
		b.del(t, key)
	}
	b.commit(t)
	b.checkAll(t)
	b.anew(t)
	if b.Pages() != 439 || len(b.Keys("", "")) != 0 {
		t.Errorf("Pages %d, %d keys", b.Pages(), len(b.Keys("", "")))
	}
}
