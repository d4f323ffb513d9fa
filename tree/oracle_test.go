package tree_test

import (
	"bytes"
	"fmt"
	"maps"
	"math/rand/v2"
	"slices"
	"strings"
	"testing"

	"bastion/api"
	"bastion/node"
	"bastion/tree"
)

// told is a tree's pairs, told a second time.
type told map[string]string

// list is the pairs whose keys are from from on, and below to, if that is not empty.
func (m told) list(from, to string) []tree.Pair {
	var l []tree.Pair
	for _, key := range slices.Sorted(maps.Keys(m)) {
		if strings.Compare(key, from) >= 0 && (to == "" || strings.Compare(key, to) < 0) {
			l = append(l, tree.Pair{Key: key, Value: m[key]})
		}
	}
	return l
}

// span is what is come to from a page: pairs, pages, and how deep the leaves lie below it.
type span struct {
	pairs []tree.Pair
	pages []int
	deep  int
}

// spanOf is what is come to from the page no, told a second time; false, if that is no tree.
func spanOf(no int, image [][]byte) (span, bool) {
	return spanWithout(no, image, nil)
}

// spanWithout does not go to a page that is on the way already: it would come round for ever.
func spanWithout(no int, image [][]byte, way []int) (span, bool) {
	if no < 0 || no >= len(image) || slices.Contains(way, no) {
		return span{}, false
	}
	n, e := node.Decode(image[no])
	if e != api.OK {
		return span{}, false
	}
	all := span{pages: []int{no}}
	if n.Leaf {
		for i, key := range n.Keys {
			all.pairs = append(all.pairs, tree.Pair{Key: key, Value: n.Values[i]})
		}
		return all, len(n.Keys) > 0
	}
	for i, kid := range n.Kids {
		part, ok := spanWithout(kid, image, append(slices.Clone(way), no))
		if !ok || i > 0 && part.deep+1 != all.deep {
			return span{}, false
		}
		if i > 0 && part.pairs[0].Key < n.Keys[i-1] || i < len(n.Keys) && part.pairs[len(part.pairs)-1].Key >= n.Keys[i] {
			return span{}, false
		}
		all.deep = part.deep + 1
		all.pairs = append(all.pairs, part.pairs...)
		all.pages = append(all.pages, part.pages...)
	}
	return all, true
}

// openTold is the pairs and the pages, rising, of the tree that lies on pages; false, if there is none.
func openTold(root int, image [][]byte) (told, []int, bool) {
	if root == -1 {
		return told{}, nil, true
	}
	all, ok := spanOf(root, image)
	slices.Sort(all.pages)
	if !ok || len(slices.Compact(slices.Clone(all.pages))) < len(all.pages) {
		return nil, nil, false
	}
	pairs := told{}
	for i, p := range all.pairs {
		if i > 0 && all.pairs[i-1].Key >= p.Key {
			return nil, nil, false
		}
		pairs[p.Key] = p.Value
	}
	return pairs, all.pages, true
}

// newTree is a tree without pairs.
func newTree(t *testing.T, n int) *tree.Tree {
	t.Helper()
	x, e := tree.New(n)
	if x == nil || e != api.OK {
		t.Fatalf("New(%d): %v, %d", n, x, int(e))
	}
	return x
}

// opened is the tree that lies on pages.
func opened(t *testing.T, root int, image [][]byte) *tree.Tree {
	t.Helper()
	x, e := tree.Open(root, image)
	if x == nil || e != api.OK {
		t.Fatalf("Open(%d, %d pages): %v, %d", root, len(image), x != nil, int(e))
	}
	return x
}

func checkNotOpened(t *testing.T, root int, image [][]byte, want api.Errno) {
	t.Helper()
	if x, e := tree.Open(root, image); x != nil || e != want {
		t.Errorf("Open(%d, %d pages): %v, %d; want %d", root, len(image), x != nil, int(e), int(want))
	}
}

func checkPut(t *testing.T, x *tree.Tree, key, value string, want api.Errno) {
	t.Helper()
	if e := x.Put(key, value); e != want {
		t.Errorf("Put(%q, %q), %d pages free: %d; want %d", key, value, x.Free(), int(e), int(want))
	}
}

func checkDel(t *testing.T, x *tree.Tree, key string, want api.Errno) {
	t.Helper()
	if e := x.Del(key); e != want {
		t.Errorf("Del(%q): %d; want %d", key, int(e), int(want))
	}
}

func checkGet(t *testing.T, x *tree.Tree, key, want string, wantIs bool) {
	t.Helper()
	if value, is := x.Get(key); value != want || is != wantIs {
		t.Errorf("Get(%q): %q, %v; want %q, %v", key, value, is, want, wantIs)
	}
}

func checkRange(t *testing.T, x *tree.Tree, from, to string, want []tree.Pair) {
	t.Helper()
	if l := x.Range(from, to); !slices.Equal(l, want) {
		t.Errorf("Range(%q, %q): %.300q; want %.300q", from, to, l, want)
	}
}

// checkPairs tells where a tree has other pairs than are told.
func checkPairs(t *testing.T, x *tree.Tree, want told) {
	t.Helper()
	if x.Len() != len(want) {
		t.Errorf("Len: %d; want %d", x.Len(), len(want))
	}
	checkRange(t, x, "", "", want.list("", ""))
	for key, value := range want {
		checkGet(t, x, key, value, true)
		for _, other := range []string{key + "\x00", key[:len(key)-1]} {
			value, is := want[other]
			checkGet(t, x, other, value, is)
		}
	}
}

// checkPages tells where the pages of a tree on n pages are not as they must be, whatever its pairs.
func checkPages(t *testing.T, x *tree.Tree, n int) {
	t.Helper()
	used := x.Used()
	if x.Free()+len(used) != n {
		t.Errorf("%d pages are free, %d used, of %d", x.Free(), len(used), n)
	}
	for i, no := range used {
		if no < 0 || no >= n || i > 0 && used[i-1] >= no {
			t.Errorf("Used: %v, of %d pages", used, n)
		}
	}
	if root := x.Root(); x.Len() == 0 && root != -1 || x.Len() > 0 && !slices.Contains(used, root) {
		t.Errorf("Root: %d; used are %v", root, used)
	}
}

// checkWaste tells where a tree has more pages than P7.5 allows.
func checkWaste(t *testing.T, x *tree.Tree) {
	t.Helper()
	if pairs, used := x.Len(), len(x.Used()); used > 3*pairs {
		t.Errorf("%d pairs use %d pages", pairs, used)
	}
}

// disk is pages as they stood when a tree was last clean, and which of them were used then.
type disk struct {
	image [][]byte
	used  []int
}

// written is the disk with what is dirty written over it, as P7.4 says; it tells where Dirty is not as it must be.
func (d disk) written(t *testing.T, x *tree.Tree) disk {
	t.Helper()
	w := disk{slices.Clone(d.image), x.Used()}
	last := -1
	for _, p := range x.Dirty() {
		if p.No <= last || !slices.Contains(w.used, p.No) || len(p.Data) != api.BlockSize {
			t.Fatalf("Dirty: page %d behind %d, %d bytes; used are %v", p.No, last, len(p.Data), w.used)
		}
		if slices.Contains(d.used, p.No) && bytes.Equal(p.Data, d.image[p.No]) {
			t.Errorf("Dirty: page %d, on which nothing else stands than did", p.No)
		}
		last = p.No
		w.image[p.No] = p.Data
	}
	return w
}

// spoilUnused lays anything on the pages that are not used.
func (d disk) spoilUnused(from *rand.Rand) {
	for no := range d.image {
		if !slices.Contains(d.used, no) {
			d.image[no] = slices.Repeat([]byte{byte(from.IntN(256))}, from.IntN(300))
		}
	}
}

// checkLaid tells where what lies on a disk is not the tree x with the pairs that are told.
func (d disk) checkLaid(t *testing.T, x *tree.Tree, want told) {
	t.Helper()
	pairs, pages, ok := openTold(x.Root(), d.image)
	if !ok || !maps.Equal(pairs, want) || !slices.Equal(pages, x.Used()) {
		t.Fatalf("root %d: a tree: %v, %d pairs on %v; want %d on %v", x.Root(), ok, len(pairs), pages, len(want), x.Used())
	}
	y := opened(t, x.Root(), d.image)
	checkPairs(t, y, want)
	if y.Root() != x.Root() || y.Free() != x.Free() || !slices.Equal(y.Used(), x.Used()) || len(y.Dirty()) != 0 {
		t.Errorf("opened: root %d, %d free, used %v, %d dirty; want %d, %d, %v", y.Root(), y.Free(), y.Used(), len(y.Dirty()), x.Root(), x.Free(), x.Used())
	}
}

// checkSame tells where two trees answer otherwise.
func checkSame(t *testing.T, x, y *tree.Tree) {
	t.Helper()
	if x.Len() != y.Len() || x.Root() != y.Root() || x.Free() != y.Free() || !slices.Equal(x.Used(), y.Used()) {
		t.Errorf("Len %d, Root %d, Free %d, Used %v; want %d, %d, %d, %v", x.Len(), x.Root(), x.Free(), x.Used(), y.Len(), y.Root(), y.Free(), y.Used())
	}
	checkRange(t, x, "", "", y.Range("", ""))
	same := func(a, b tree.Page) bool { return a.No == b.No && bytes.Equal(a.Data, b.Data) }
	if !slices.EqualFunc(x.Dirty(), y.Dirty(), same) {
		t.Errorf("Dirty: %d pages; want %d, or others", len(x.Dirty()), len(y.Dirty()))
	}
}

// keyMaker is a way to make keys: of a number the same one each time.
type keyMaker struct {
	name string
	of   func(i int) string
}

// keyMakers are keys of many shapes: rising and not, short and long, with long beginnings that are the same.
func keyMakers() []keyMaker {
	mixed := func(i int) uint32 { return uint32(i) * 2654435761 }
	return []keyMaker{
		{"rising", func(i int) string { return fmt.Sprintf("%06d", i) }},
		{"falling", func(i int) string { return fmt.Sprintf("%06d", 999999-i) }},
		{"mixed", func(i int) string { return fmt.Sprintf("%x", mixed(i)) }},
		{"long", func(i int) string { return fmt.Sprintf("%08x%s", mixed(i), strings.Repeat("k", 24)) }},
		{"beginning alike", func(i int) string { return strings.Repeat("\xff", 24) + fmt.Sprintf("%08x", mixed(i)) }},
		{"one in another", func(i int) string { return strings.Repeat("\x00", 1+i%32) + strings.Repeat("b", (i/32)%2*(31-i%32)) }},
		{"two bytes", func(i int) string { return string([]byte{byte(mixed(i) >> 8), byte(mixed(i))}) }},
		{"all lengths", func(i int) string {
			return string([]byte{byte(mixed(i) >> 20), byte(mixed(i) >> 12)}) + strings.Repeat("z", i%31)
		}},
	}
}
