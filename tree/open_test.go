package tree_test

import (
	"bytes"
	"fmt"
	"maps"
	"math"
	"math/rand/v2"
	"slices"
	"strings"
	"testing"

	"bastion/api"
	"bastion/node"
	"bastion/tree"
)

// leaf is a leaf of keys, each with itself as its value.
func leaf(keys ...string) node.Node {
	return node.Node{Leaf: true, Keys: keys, Values: keys}
}

// inner is a node that is no leaf: the first kid, then keys and kids, in turn.
func inner(first int, rest ...any) node.Node {
	n := node.Node{Kids: []int{first}}
	for i := 0; i < len(rest); i += 2 {
		n.Keys, n.Kids = append(n.Keys, rest[i].(string)), append(n.Kids, rest[i+1].(int))
	}
	return n
}

// laid is nodes as pages, by rising numbers.
func laid(t *testing.T, nodes ...node.Node) [][]byte {
	t.Helper()
	var image [][]byte
	for _, n := range nodes {
		b, e := node.Encode(n)
		if e != api.OK {
			t.Fatalf("%v is no page: %d", n, int(e))
		}
		image = append(image, b)
	}
	return image
}

// P7.1: trees as no Put made them.
func TestTreesOfAllShapes(t *testing.T) {
	for name, nodes := range map[string][]node.Node{
		"a leaf":                        {leaf("a", "b")},
		"a key that is no pair's":       {inner(1, "b", 2), leaf("a"), leaf("c")},
		"a key that is a pair's":        {inner(1, "c", 2), leaf("a"), leaf("c")},
		"a key beside the first one":    {inner(1, "a\x00", 2), leaf("a"), leaf("c")},
		"a page without keys":           {inner(1), leaf("a")},
		"two pages without keys":        {inner(1), inner(2), leaf("a")},
		"three pages without keys":      {inner(3), inner(2), leaf("a"), inner(1)},
		"deep":                          {inner(1, "m", 2), inner(3, "c", 4), inner(5, "x", 6), leaf("a"), leaf("c"), leaf("m"), leaf("y")},
		"deep, some without keys":       {inner(1, "m", 2), inner(3), inner(4, "x", 5), leaf("a"), leaf("m"), leaf("x")},
		"keys below, at, and above":     {inner(1, "b", 2, "c", 3), leaf("a\xff"), leaf("b", "b\x00", "bz"), leaf("c", "\xff")},
		"another tree is not come to":   {inner(1, "b", 2), leaf("a"), leaf("b"), leaf("c"), inner(3, "x", 3)},
		"the empty leaf is not come to": {leaf("a"), leaf()},
	} {
		t.Run(name, func(t *testing.T) {
			image := laid(t, nodes...)
			pairs, used, ok := openTold(0, image)
			if !ok {
				t.Fatal("no tree")
			}
			x := opened(t, 0, image)
			checkPairs(t, x, pairs)
			checkPages(t, x, len(image))
			if x.Root() != 0 || !slices.Equal(x.Used(), used) || len(x.Dirty()) != 0 {
				t.Errorf("Root %d, Used %v, Dirty %v; want %v", x.Root(), x.Used(), x.Dirty(), used)
			}
		})
	}
}

// P7.1: no pairs, of a root that is none, whatever stands on the pages.
func TestOpenOfNothing(t *testing.T) {
	for _, image := range [][][]byte{nil, {}, {nil}, {[]byte("no page")}, laid(t, leaf("a"), inner(0)), make([][]byte, api.MaxBlocks)} {
		x := opened(t, -1, image)
		checkPairs(t, x, told{})
		checkPages(t, x, len(image))
		if x.Free() != len(image) {
			t.Errorf("Free: %d of %d", x.Free(), len(image))
		}
	}
}

// The table of errors: Open of what is no tree.
func TestNoTrees(t *testing.T) {
	k33 := append([]byte{1, 1, 33}, append(bytes.Repeat([]byte{'k'}, 33), make([]byte, 256-36)...)...)
	for name, image := range map[string][][]byte{
		"no bytes":                      {nil},
		"a byte fewer":                  {laid(t, leaf("a"))[0][:255]},
		"a byte more":                   {append(laid(t, leaf("a"))[0], 0)},
		"00s alone, a page of itself":   {make([]byte, 256)},
		"no node":                       {bytes.Repeat([]byte{2}, 256)},
		"a key that is too long":        {k33},
		"a leaf without pairs":          laid(t, leaf()),
		"a leaf without pairs, below":   laid(t, inner(1, "b", 2), leaf("a"), leaf()),
		"a page of itself":              laid(t, inner(0)),
		"two pages of one another":      laid(t, inner(1), inner(0)),
		"a page that is come to twice":  laid(t, inner(1, "b", 1), leaf("a")),
		"a page of two pages":           laid(t, inner(1, "m", 2), inner(3), inner(3), leaf("a")),
		"a page that is none":           laid(t, inner(1, "b", 3), leaf("a"), leaf("b")),
		"a page that could be none":     laid(t, inner(1, "b", api.MaxBlocks), leaf("a"), leaf("b")),
		"one leaf is deeper":            laid(t, inner(1, "b", 2), leaf("a"), inner(3), leaf("b")),
		"one leaf is less deep":         laid(t, inner(1, "b", 2), inner(3), leaf("b"), leaf("a")),
		"a key as great as the bound":   laid(t, inner(1, "b", 2), leaf("a", "b"), leaf("c")),
		"a key below where it begins":   laid(t, inner(1, "b", 2), leaf("a"), leaf("a\xff", "c")),
		"a key twice":                   laid(t, inner(1, "b", 2), leaf("a", "b"), leaf("b")),
		"leaves turned about":           laid(t, inner(1, "b", 2), leaf("c"), leaf("a")),
		"a key above a bound above":     laid(t, inner(1, "m", 2), inner(3, "c", 4), inner(5), leaf("a"), leaf("c", "m"), leaf("n")),
		"a key below a bound above":     laid(t, inner(1, "m", 2), inner(3), inner(4, "p", 5), leaf("a"), leaf("l"), leaf("q")),
		"a kid that has no room":        laid(t, inner(1, "m", 2), inner(3, "n", 4), inner(5), leaf("a"), leaf("n"), leaf("o")),
		"a kid that has none, at first": laid(t, inner(1, "m", 2), inner(3), inner(4, "m", 5), leaf("a"), leaf("l"), leaf("n")),
		"a page below is no node":       append(laid(t, inner(1, "b", 2), leaf("a")), bytes.Repeat([]byte{9}, 256)),
		"a page below is short":         append(laid(t, inner(1, "b", 2), leaf("a")), laid(t, leaf("b"))[0][:9]),
	} {
		t.Run(name, func(t *testing.T) {
			if _, _, ok := openTold(0, image); ok {
				t.Fatal("a tree")
			}
			checkNotOpened(t, 0, image, api.ErrForm)
			checkNotOpened(t, len(image), image, api.ErrArg)
		})
	}
}

// The table of errors: Open of roots that are none, and of too many pages, whatever stands there.
func TestOpenArguments(t *testing.T) {
	good, bad := laid(t, leaf("a")), [][]byte{nil}
	for _, image := range [][][]byte{nil, good, bad, make([][]byte, api.MaxBlocks)} {
		for _, root := range []int{-2, math.MinInt, len(image), len(image) + 1, api.MaxBlocks, 1 << 32, math.MaxInt} {
			checkNotOpened(t, root, image, api.ErrArg)
		}
	}
	many := make([][]byte, api.MaxBlocks+1)
	many[0] = good[0]
	for _, root := range []int{-1, 0, 1, api.MaxBlocks, -2} {
		checkNotOpened(t, root, many, api.ErrArg)
	}
	x := opened(t, 0, many[:api.MaxBlocks])
	if x.Len() != 1 || x.Free() != api.MaxBlocks-1 {
		t.Errorf("Len %d, Free %d", x.Len(), x.Free())
	}
	last := make([][]byte, api.MaxBlocks)
	last[api.MaxBlocks-1] = good[0]
	if x := opened(t, api.MaxBlocks-1, last); x.Len() != 1 || x.Root() != api.MaxBlocks-1 {
		t.Errorf("Len %d, Root %d", x.Len(), x.Root())
	}
}

// R3: the pages are neither kept nor changed.
func TestImageIsApart(t *testing.T) {
	image := laid(t, inner(1, "b", 2), leaf("a"), leaf("b"))
	for range 20 {
		image = append(image, nil)
	}
	kept := slices.Clone(image)
	for i := range kept {
		kept[i] = slices.Clone(image[i])
	}
	x := opened(t, 0, image)
	checkPut(t, x, "c", "1", api.OK)
	checkDel(t, x, "a", api.OK)
	if !slices.EqualFunc(image, kept, bytes.Equal) {
		t.Error("the pages that were handed in are changed")
	}
	for _, b := range image {
		for i := range b {
			b[i] = 0x55
		}
	}
	clear(image)
	checkPairs(t, x, told{"b": "b", "c": "1"})
	x.Back()
	checkPairs(t, x, told{"a": "a", "b": "b"})
}

// wild draws a tree as no Put makes it: pairs in leaves of any size, nodes of one kid and more, keys that are no pairs', pages anywhere. It answers its root and its pages, and what stands on the others may be anything.
func wild(t *testing.T, from *rand.Rand, keys []string, most int) (int, [][]byte) {
	t.Helper()
	n := 9*len(keys) + 20 + from.IntN(40)
	nos := from.Perm(n)
	image := make([][]byte, n)
	for i := range image {
		image[i] = slices.Repeat([]byte{byte(from.IntN(3))}, 255+from.IntN(3))
	}
	lay := func(m node.Node) int {
		no := nos[0]
		nos = nos[1:]
		image[no] = laid(t, m)[0]
		return no
	}
	var level []int
	var bounds []string // from which on each of the level is
	for at := 0; at < len(keys); {
		m := leaf(keys[at:min(at+1+from.IntN(most), len(keys))]...)
		for !node.Fits(m) {
			m = leaf(m.Keys[:len(m.Keys)-1]...)
		}
		level, bounds = append(level, lay(m)), append(bounds, bound(from, keys[:at], keys[at]))
		at += len(m.Keys)
	}
	for up := 0; len(level) > 1 || up == 0 && from.IntN(2) == 0; up++ {
		var above []int
		var boundsAbove []string
		for at := 0; at < len(level); {
			end := min(at+1+from.IntN(most), len(level))
			if up > 5 {
				end = min(at+2, len(level)) // or there might be no end
			}
			m := node.Node{Keys: bounds[at+1 : end], Kids: level[at:end]}
			for !node.Fits(m) {
				end--
				m = node.Node{Keys: bounds[at+1 : end], Kids: level[at:end]}
			}
			above, boundsAbove = append(above, lay(m)), append(boundsAbove, bounds[at])
			at = end
		}
		level, bounds = above, boundsAbove
		if len(nos) < len(level) {
			t.Fatal("too few pages")
		}
	}
	return level[0], image
}

// bound is a key from which on key is, and not those ahead of it: itself, or what it begins with.
func bound(from *rand.Rand, ahead []string, key string) string {
	if len(ahead) == 0 || from.IntN(2) == 0 {
		return key
	}
	size := 1
	for key[:size] <= ahead[len(ahead)-1] {
		size++
	}
	return key[:size]
}

// drawnKeys are so many keys, rising.
func drawnKeys(from *rand.Rand, count int) []string {
	of := keyMakers()[from.IntN(len(keyMakers()))].of
	m := map[string]bool{}
	for i := range count {
		m[of(i)] = true
	}
	return slices.Sorted(maps.Keys(m))
}

// P7.1, P7.5: trees that were drawn, and what becomes of them: all answers are as told; once something was put or went, they have no more pages than they may.
func TestWildTrees(t *testing.T) {
	from := rand.New(rand.NewPCG(8, 2026))
	for round := range 150 {
		keys := drawnKeys(from, 1+from.IntN(150))
		root, image := wild(t, from, keys, 2+from.IntN(8))
		pairs, used, ok := openTold(root, image)
		if !ok || len(pairs) != len(keys) {
			t.Fatal("no tree was drawn")
		}
		x := opened(t, root, image)
		checkPairs(t, x, pairs)
		checkPages(t, x, len(image))
		if x.Root() != root || !slices.Equal(x.Used(), used) || len(x.Dirty()) != 0 {
			t.Fatalf("Root %d, Used %v; want %d, %v", x.Root(), x.Used(), root, used)
		}
		y := opened(t, root, image)
		s := script{x: x, n: len(image), now: pairs, was: maps.Clone(pairs), disk: disk{image, used}}
		for range 100 {
			s.step(t, from, keys)
			if t.Failed() {
				t.Fatal("round", round)
			}
		}
		if !s.cleaned {
			x.Back()
			checkSame(t, x, y)
		}
	}
}

// P7.1: bytes of a tree that were changed: a tree, or none, as is told.
func TestSpoiltTrees(t *testing.T) {
	from := rand.New(rand.NewPCG(9, 2026))
	trees, none := 0, 0
	for range 3000 {
		keys := drawnKeys(from, 1+from.IntN(30))
		root, image := wild(t, from, keys, 2+from.IntN(5))
		_, used, _ := openTold(root, image)
		for range 1 + from.IntN(2) {
			spoilPage(from, image, used)
		}
		pairs, used, ok := openTold(root, image)
		if !ok {
			none++
			checkNotOpened(t, root, image, api.ErrForm)
			continue
		}
		trees++
		x := opened(t, root, image)
		checkPairs(t, x, pairs)
		if !slices.Equal(x.Used(), used) {
			t.Errorf("Used: %v; want %v", x.Used(), used)
		}
	}
	if trees < 300 || none < 1000 {
		t.Errorf("%d were trees, %d none", trees, none)
	}
}

// spoilPage changes one of the pages that are used: a bit, a whole page, or what its node tells.
func spoilPage(from *rand.Rand, image [][]byte, used []int) {
	no := used[from.IntN(len(used))]
	b := slices.Clone(image[no])
	image[no] = b
	n, e := node.Decode(b)
	kind := from.IntN(6)
	switch {
	case kind == 0 || e != api.OK:
		b[from.IntN(len(b))] ^= 1 << from.IntN(8)
		return
	case kind == 1:
		image[no] = image[used[from.IntN(len(used))]]
		return
	case kind == 2 && len(n.Keys) > 0:
		i := from.IntN(len(n.Keys))
		n.Keys[i] = strings.TrimRight(n.Keys[i][:len(n.Keys[i])-1]+string([]byte{n.Keys[i][len(n.Keys[i])-1] + byte(1+from.IntN(3))}), "\x00")
	case kind == 3 && !n.Leaf:
		n.Kids[from.IntN(len(n.Kids))] = from.IntN(len(image) + 2)
	case kind == 4 && !n.Leaf && len(n.Keys) > 0:
		n.Keys, n.Kids = n.Keys[1:], n.Kids[1:]
	case kind == 5 && n.Leaf && len(n.Keys) > 0:
		n.Keys, n.Values = n.Keys[1:], n.Values[1:]
	}
	if b, e := node.Encode(n); e == api.OK {
		image[no] = b
	}
}

// P7.1: a tree of pages that lie as deep as there are pages: it is read, changed, and has few pages then.
func TestDeepest(t *testing.T) {
	const n = api.MaxBlocks
	for _, free := range []int{0, tree.Spare} {
		var nodes []node.Node
		for no := range n - free - 1 {
			nodes = append(nodes, inner(no+1))
		}
		image := laid(t, append(nodes, leaf("a", "b"))...)
		image = append(image, make([][]byte, free)...)
		x := opened(t, 0, image)
		checkPairs(t, x, told{"a": "a", "b": "b"})
		if x.Free() != free || len(x.Dirty()) != 0 {
			t.Errorf("Free %d, %d dirty", x.Free(), len(x.Dirty()))
		}
		checkDel(t, x, "c", api.ErrNone)
		checkDirty(t, x)
		if free == 0 {
			checkPut(t, x, "c", "c", api.ErrFull)
			checkDel(t, x, "b", api.OK)
			checkPairs(t, x, told{"a": "a"})
		} else {
			checkPut(t, x, "c", "c", api.OK)
			checkPairs(t, x, told{"a": "a", "b": "b", "c": "c"})
		}
		checkWaste(t, x)
		x.Back()
		if x.Root() != 0 || x.Free() != free {
			t.Errorf("behind Back: Root %d, Free %d", x.Root(), x.Free())
		}
	}
}

// builder lays nodes on the pages 0, 1, and on, and tells the pairs that are there.
type builder struct {
	nodes []node.Node
	pairs told
}

func (b *builder) add(n node.Node) int {
	b.nodes = append(b.nodes, n)
	for i, value := range n.Values {
		b.pairs[n.Keys[i]] = value
	}
	return len(b.nodes) - 1
}

// leaf is a leaf of pairs that are as great as they may be.
func (b *builder) leaf(keys ...string) int {
	n := node.Node{Leaf: true, Keys: keys}
	for range keys {
		n.Values = append(n.Values, strings.Repeat("v", api.MaxValue))
	}
	return b.add(n)
}

// chain is so many pages without keys, one above the other, and a leaf of one pair below.
func (b *builder) chain(pages int, key string) int {
	no := b.leaf(key)
	for range pages {
		no = b.add(inner(no))
	}
	return no
}

// chains is a page above chains of so many pages.
func (b *builder) chains(pages int, keys ...string) int {
	n := node.Node{Keys: keys[1:]}
	for _, key := range keys {
		n.Kids = append(n.Kids, b.chain(pages, key))
	}
	return b.add(n)
}

// keysOf are so many keys, rising, as long as they may be, that begin alike.
func keysOf(begin string, count int) []string {
	var l []string
	for i := range count {
		key := begin + string(rune('0'+i))
		l = append(l, key+strings.Repeat("k", api.MaxKey-len(key)))
	}
	return l
}

// P7.3: where each page of a way has no room for one more kid, nor those beside them, and the way is longer than so many pages are free, a Put goes well, too.
func TestFullWay(t *testing.T) {
	const deep = 25
	b := &builder{pairs: told{}}
	end := keysOf("z", 3)
	no := b.leaf(end[:2]...)
	for level := deep; level > 0; level-- {
		first := keysOf(fmt.Sprintf("%02da", level), 6)
		beside := keysOf(fmt.Sprintf("%02db", level), 7)
		n := node.Node{Keys: append(append(slices.Clone(first[1:]), beside[0]), keysOf(fmt.Sprintf("%02dc", level), 1)...)}
		for _, key := range first {
			n.Kids = append(n.Kids, b.chain(deep-level, key))
		}
		if level == deep {
			n.Kids = append(n.Kids, b.leaf(beside[:2]...))
		} else {
			n.Kids = append(n.Kids, b.chains(deep-level-1, beside...))
		}
		n.Kids = append(n.Kids, no)
		no = b.add(n)
	}
	image := append(laid(t, b.nodes...), make([][]byte, tree.Spare)...)
	x := opened(t, no, image)
	checkPairs(t, x, b.pairs)
	if x.Free() != tree.Spare {
		t.Errorf("Free: %d", x.Free())
	}
	checkPut(t, x, end[2], strings.Repeat("v", 64), api.OK)
	b.pairs[end[2]] = strings.Repeat("v", 64)
	checkPairs(t, x, b.pairs)
	checkPages(t, x, len(image))
	checkWaste(t, x)
	disk{image: image}.written(t, x).checkLaid(t, x, b.pairs)
}

// P7.5: where far more pages are wasted than those beside the way, a Del, or a Put, gives them back, too.
func TestWasteElsewhere(t *testing.T) {
	const deep = 100
	b := &builder{pairs: told{}}
	keys := append(keysOf("a", 2), keysOf("b", 8)...)
	no := b.leaf(keys[:2]...)
	for range deep {
		no = b.add(inner(no))
	}
	root := b.add(inner(no, keys[2], b.chains(deep-1, keys[2:]...)))
	image := append(laid(t, b.nodes...), make([][]byte, tree.Spare)...)
	for _, do := range []func(x *tree.Tree){
		func(x *tree.Tree) { checkDel(t, x, keys[0], api.OK) },
		func(x *tree.Tree) { checkPut(t, x, keys[0], "", api.OK) },
		func(x *tree.Tree) { checkDel(t, x, keys[5], api.OK) },
	} {
		x := opened(t, root, image)
		do(x)
		checkWaste(t, x)
		checkPages(t, x, len(image))
		left := told{}
		for _, p := range x.Range("", "") {
			left[p.Key] = p.Value
		}
		disk{image: image}.written(t, x).checkLaid(t, x, left)
		if x.Len() < len(keys)-1 {
			t.Errorf("Len: %d", x.Len())
		}
	}
}
