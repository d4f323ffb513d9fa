package tree_test

import (
	"fmt"
	"math/rand/v2"
	"slices"
	"strings"
	"testing"

	"bastion/api"
	"bastion/tree"
)

// grown is a tree with pairs that were put, clean, with its pairs and its disk.
func grown(t *testing.T, n, pairs int) (*tree.Tree, told, disk) {
	t.Helper()
	x, m := newTree(t, n), told{}
	for i := range pairs {
		key := fmt.Sprintf("key %04d", i*7919%10000)
		m[key] = strings.Repeat("v", i%65)
		checkPut(t, x, key, m[key], api.OK)
	}
	d := disk{image: make([][]byte, n)}.written(t, x)
	if e := x.Clean(); e != api.OK {
		t.Error("Clean:", int(e))
	}
	return x, m, d
}

func checkDirty(t *testing.T, x *tree.Tree, want ...int) {
	t.Helper()
	var nos []int
	for _, p := range x.Dirty() {
		nos = append(nos, p.No)
	}
	if !slices.Equal(nos, want) {
		t.Errorf("Dirty: %v; want %v", nos, want)
	}
}

// P7.2: a page is dirty as long as something else stands there than did.
func TestDirty(t *testing.T) {
	x := newTree(t, 40)
	checkDirty(t, x)
	checkPut(t, x, "a", "1", api.OK)
	checkPut(t, x, "b", "1", api.OK)
	checkDirty(t, x, 0)
	x.Clean()
	checkDirty(t, x)
	checkPut(t, x, "a", "1", api.OK) // it is there already
	checkDirty(t, x)
	checkPut(t, x, "a", "2", api.OK)
	checkDirty(t, x, 0)
	checkPut(t, x, "a", "1", api.OK)
	checkDirty(t, x)
	checkDel(t, x, "a", api.OK)
	checkDirty(t, x, 0)
	checkPut(t, x, "a", "1", api.OK)
	checkDirty(t, x)
	checkDel(t, x, "a", api.OK)
	checkDel(t, x, "b", api.OK)
	checkDirty(t, x) // it is not used any more
	x.Clean()
	checkPut(t, x, "a", "1", api.OK)
	checkPut(t, x, "b", "1", api.OK)
	checkDirty(t, x, 0) // it was not used: what stood there may be anything
}

// P7.2: of a great tree a pair's Put, or Del, changes few pages; the others stay clean.
func TestFewAreDirty(t *testing.T) {
	x, m, _ := grown(t, 1000, 600)
	for _, key := range []string{"key 0000", "key 5000a", "key 9999a"} {
		checkPut(t, x, key, strings.Repeat("v", 64), api.OK)
		if l := x.Dirty(); len(l) == 0 || len(l) > 16 {
			t.Errorf("Put(%q): %d of %d pages are dirty", key, len(l), len(x.Used()))
		}
		x.Clean()
	}
	for key := range m {
		checkDel(t, x, key, api.OK)
		if l := x.Dirty(); len(l) > 16 {
			t.Errorf("Del(%q): %d of %d pages are dirty", key, len(l), len(x.Used()))
		}
		x.Clean()
	}
}

// P7.2, P7.6: Back behind nothing, behind New, behind Open, and twice.
func TestBackToTheBeginning(t *testing.T) {
	x := newTree(t, 100)
	for range 2 {
		if e := x.Back(); e != api.OK {
			t.Error("Back:", int(e))
		}
		checkSame(t, x, newTree(t, 100))
		for i := range 40 {
			checkPut(t, x, fmt.Sprint("key ", i), "value", api.OK)
		}
	}
	x, m, d := grown(t, 200, 100)
	y := opened(t, x.Root(), d.image)
	for key := range m {
		checkDel(t, y, key, api.OK)
	}
	checkPairs(t, y, told{})
	for range 2 {
		if e := y.Back(); e != api.OK {
			t.Error("Back:", int(e))
		}
		checkSame(t, y, x)
		checkPairs(t, y, m)
	}
}

// P7.6: behind Back all answers are as they were behind Clean, and what is done then goes as it would have gone.
func TestBack(t *testing.T) {
	from := rand.New(rand.NewPCG(7, 2026))
	for round := range 40 {
		x, m, d := grown(t, 600, 40*(round%8))
		y := opened(t, x.Root(), d.image)
		for range from.IntN(300) {
			key := fmt.Sprintf("key %04d", from.IntN(10000))
			if from.IntN(3) == 0 {
				x.Put(key, strings.Repeat("w", from.IntN(65)))
			} else if l := x.Range(key, ""); len(l) > 0 {
				checkDel(t, x, l[0].Key, api.OK)
			}
		}
		if e := x.Back(); e != api.OK {
			t.Error("Back:", int(e))
		}
		checkDirty(t, x)
		checkSame(t, x, y)
		checkPairs(t, x, m)
		for i := range 60 {
			key := fmt.Sprintf("key %04d", i*31%10000)
			checkPut(t, x, key, "", api.OK)
			checkPut(t, y, key, "", api.OK)
			checkSame(t, x, y)
		}
	}
}

// P7.6: Clean is behind what was done, Back ahead of it, many times in turn.
func TestCleanAndBack(t *testing.T) {
	x := newTree(t, 300)
	m := told{}
	for i := range 120 {
		key := fmt.Sprint("key ", i)
		checkPut(t, x, key, "stays", api.OK)
		m[key] = "stays"
		x.Clean()
		for j := range i {
			checkDel(t, x, fmt.Sprint("key ", j), api.OK)
		}
		checkPut(t, x, "goes", "", api.OK)
		x.Back()
		checkPairs(t, x, m)
		checkDirty(t, x)
	}
}

// R2: trees do not see one another.
func TestTreesApart(t *testing.T) {
	_, m, d := grown(t, 200, 100)
	root := -1
	for no := range d.image {
		if pairs, _, ok := openTold(no, d.image); ok && len(pairs) == len(m) {
			root = no
		}
	}
	x, y := opened(t, root, d.image), opened(t, root, d.image)
	for key := range m {
		checkPut(t, x, key, "x", api.OK)
	}
	checkPairs(t, y, m)
	checkDirty(t, y)
	for key := range m {
		checkDel(t, y, key, api.OK)
	}
	if v, is := x.Get("key 0000"); v != "x" || !is || x.Len() != len(m) {
		t.Error("a tree sees what another one did")
	}
	x.Back()
	checkPairs(t, x, m)
	checkPairs(t, y, told{})
}
