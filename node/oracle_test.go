package node_test

import (
	"bytes"
	"encoding/binary"
	"fmt"
	"math"
	"math/rand/v2"
	"slices"
	"strings"
	"testing"

	"bastion/api"
	"bastion/node"
)

// leaf is a leaf of keys and values, in turn.
func leaf(pairs ...string) node.Node {
	n := node.Node{Leaf: true}
	for i := 0; i < len(pairs); i += 2 {
		n.Keys, n.Values = append(n.Keys, pairs[i]), append(n.Values, pairs[i+1])
	}
	return n
}

// inner is a node that is no leaf: the first kid, then keys and kids, in turn.
func inner(first int, rest ...any) node.Node {
	n := node.Node{Kids: []int{first}}
	for i := 0; i < len(rest); i += 2 {
		n.Keys, n.Kids = append(n.Keys, rest[i].(string)), append(n.Kids, rest[i+1].(int))
	}
	return n
}

// long is a key of so many bytes; those of rising nos rise.
func long(no, size int) string {
	return fmt.Sprintf("%c%s", 'A'+no, strings.Repeat("k", size-1))
}

// leafOf is a leaf of so many pairs, its keys and values of so many bytes.
func leafOf(pairs, key, value int) node.Node {
	n := node.Node{Leaf: true}
	for i := range pairs {
		n.Keys, n.Values = append(n.Keys, long(i, key)), append(n.Values, strings.Repeat("v", value))
	}
	return n
}

// innerOf is no leaf: so many keys of so many bytes, and kids that are all the same.
func innerOf(keys, key, kid int) node.Node {
	n := node.Node{Kids: []int{kid}}
	for i := range keys {
		n.Keys, n.Kids = append(n.Keys, long(i, key)), append(n.Kids, kid)
	}
	return n
}

// mayBeTold tells a second time whether a node may be.
func mayBeTold(n node.Node) bool {
	for i, key := range n.Keys {
		if len(key) == 0 || len(key) > 32 {
			return false
		}
		if i > 0 && bytes.Compare([]byte(n.Keys[i-1]), []byte(key)) >= 0 {
			return false
		}
	}
	if n.Leaf {
		for _, value := range n.Values {
			if len(value) > 64 {
				return false
			}
		}
		return len(n.Values) == len(n.Keys) && len(n.Kids) == 0
	}
	for _, kid := range n.Kids {
		if kid < 0 || kid > 32768 {
			return false
		}
	}
	return len(n.Kids) == len(n.Keys)+1 && len(n.Values) == 0
}

// bodyTold is what a node that may be has ahead of the 00s, told a second time, by encoding/binary.
func bodyTold(n node.Node) []byte {
	var b []byte
	count := func(n int) { b = binary.AppendUvarint(b, uint64(n)) }
	text := func(s string) { count(len(s)); b = append(b, s...) }
	if n.Leaf {
		b = append(b, 1)
		count(len(n.Keys))
		for i := range n.Keys {
			text(n.Keys[i])
			text(n.Values[i])
		}
		return b
	}
	b = append(b, 0)
	count(len(n.Keys))
	for i, kid := range n.Kids {
		if i > 0 {
			text(n.Keys[i-1])
		}
		count(kid)
	}
	return b
}

// encodeTold is what Encode answers, told a second time.
func encodeTold(n node.Node) ([]byte, api.Errno) {
	if !mayBeTold(n) {
		return nil, api.ErrArg
	}
	b := bodyTold(n)
	if len(b) > 256 {
		return nil, api.ErrFull
	}
	return append(b, make([]byte, 256-len(b))...), api.OK
}

// parsed is the node that bytes seem to be, by the lengths that stand there alone; false, if they end ahead of it.
func parsed(b []byte) (n node.Node, ok bool) {
	defer func() { ok = recover() == nil }() // what is cut is met by an index, and by a count without bytes
	count := func() int {
		n, size := binary.Uvarint(b)
		if size <= 0 {
			panic("no count")
		}
		b = b[size:]
		return int(n)
	}
	text := func() string {
		size := count()
		s := string(b[:size])
		b = b[size:]
		return s
	}
	n.Leaf = b[0] == 1
	b = b[1:]
	keys := count()
	if !n.Leaf {
		n.Kids = append(n.Kids, count())
	}
	for range keys {
		n.Keys = append(n.Keys, text())
		if n.Leaf {
			n.Values = append(n.Values, text())
		} else {
			n.Kids = append(n.Kids, count())
		}
	}
	return n, true
}

// decodeTold is what Decode answers, told a second time: bytes are a node's, if what they seem to be has just these bytes.
func decodeTold(b []byte) (node.Node, api.Errno) {
	n, ok := parsed(b)
	if !ok {
		return node.Node{}, api.ErrForm
	}
	back, e := encodeTold(n)
	if e != api.OK || !bytes.Equal(back, b) {
		return node.Node{}, api.ErrForm
	}
	return n, api.OK
}

// findTold is what Find answers, told a second time.
func findTold(n node.Node, key string) (int, bool) {
	below, is := 0, false
	if !mayBeTold(n) {
		return 0, false
	}
	for _, k := range n.Keys {
		switch bytes.Compare([]byte(k), []byte(key)) {
		case -1:
			below++
		case 0:
			is = true
		}
	}
	return below, is
}

// same tells whether two nodes are the same: an empty list may be nil.
func same(a, b node.Node) bool {
	return a.Leaf == b.Leaf && slices.Equal(a.Keys, b.Keys) && slices.Equal(a.Values, b.Values) && slices.Equal(a.Kids, b.Kids)
}

// cloned is a node that shares nothing with n.
func cloned(n node.Node) node.Node {
	return node.Node{Leaf: n.Leaf, Keys: slices.Clone(n.Keys), Values: slices.Clone(n.Values), Kids: slices.Clone(n.Kids)}
}

// shown is a node as a failing test tells it: short, and in plain letters.
func shown(n node.Node) string { return fmt.Sprintf("%.200q", fmt.Sprintf("%#v", n)) }

// encoded is the bytes of a node that fits.
func encoded(t *testing.T, n node.Node) []byte {
	t.Helper()
	b, e := node.Encode(n)
	if e != api.OK {
		t.Fatalf("Encode of %s: %d", shown(n), int(e))
	}
	return b
}

// checkNode tells where what is answered of a node is not as it is told a second time, and where the node is changed.
func checkNode(t *testing.T, n node.Node) {
	t.Helper()
	kept := cloned(n)
	want, wantErr := encodeTold(n)
	size := 0
	if mayBeTold(n) {
		size = len(bodyTold(n))
	}
	b, e := node.Encode(n)
	if !bytes.Equal(b, want) || e != wantErr {
		t.Errorf("Encode of %s: % x, %d; want % x, %d", shown(n), b, int(e), want, int(wantErr))
	}
	if got := node.Size(n); got != size {
		t.Errorf("Size of %s: %d; want %d", shown(n), got, size)
	}
	if got := node.Fits(n); got != (wantErr == api.OK) {
		t.Errorf("Fits of %s: %v", shown(n), got)
	}
	if e == api.OK {
		checkDecode(t, b)
	}
	for _, key := range keysBeside(n) {
		checkFind(t, n, key)
	}
	if !same(n, kept) {
		t.Errorf("what was handed in is changed: %s; was %s", shown(n), shown(kept))
	}
}

// checkDecode tells where Decode of bytes is not as it is told a second time, and where they are changed, and do not come back.
func checkDecode(t *testing.T, b []byte) {
	t.Helper()
	kept := bytes.Clone(b)
	want, wantErr := decodeTold(b)
	n, e := node.Decode(b)
	if !same(n, want) || e != wantErr {
		t.Errorf("Decode of % x: %s, %d; want %s, %d", b, shown(n), int(e), shown(want), int(wantErr))
	}
	if !bytes.Equal(b, kept) {
		t.Errorf("what was handed in is changed: % x", b)
	}
	if e != api.OK {
		return
	}
	if back, e := node.Encode(n); e != api.OK || !bytes.Equal(back, b) {
		t.Errorf("Encode of Decode of % x: % x, %d", b, back, int(e))
	}
}

// checkNotDecoded tells where Decode is not refused as it must be.
func checkNotDecoded(t *testing.T, b []byte) {
	t.Helper()
	if n, e := node.Decode(b); e != api.ErrForm || !same(n, node.Node{}) {
		t.Errorf("Decode of % x, %d bytes: %s, %d", b, len(b), shown(n), int(e))
	}
}

// checkRefused tells where a node that may not be is not refused as it must be.
func checkRefused(t *testing.T, n node.Node) {
	t.Helper()
	if b, e := node.Encode(n); len(b) != 0 || e != api.ErrArg {
		t.Errorf("Encode of %s: % x, %d", shown(n), b, int(e))
	}
	if size, fits := node.Size(n), node.Fits(n); size != 0 || fits {
		t.Errorf("Size, Fits of %s: %d, %v", shown(n), size, fits)
	}
	for _, key := range keysBeside(n) {
		if i, is := node.Find(n, key); i != 0 || is {
			t.Errorf("Find of %q in %s: %d, %v", key, shown(n), i, is)
		}
	}
}

func checkFind(t *testing.T, n node.Node, key string) {
	t.Helper()
	want, wantIs := findTold(n, key)
	if i, is := node.Find(n, key); i != want || is != wantIs {
		t.Errorf("Find of %q in %s: %d, %v; want %d, %v", key, shown(n), i, is, want, wantIs)
	}
}

// keysBeside are the keys of a node (of many some), what is just beside each, and what is beside all.
func keysBeside(n node.Node) []string {
	out := []string{"", "\x00", "m", "\x80", strings.Repeat("\xff", 33), strings.Repeat("z", 300)}
	for i, key := range n.Keys {
		if i%(1+len(n.Keys)/100) != 0 {
			continue
		}
		out = append(out, key, key+"\x00", key+"\xff", key[:len(key)/2])
		if key == "" {
			continue
		}
		last := len(key) - 1
		out = append(out, key[:last]+string([]byte{key[last] + 1}), key[:last]+string([]byte{key[last] - 1, 0xff}))
	}
	return out
}

// good are nodes that may be, by their names; many are beside an edge.
func good() map[string]node.Node {
	return map[string]node.Node{
		"the example's leaf":              leaf("a", "x", "b", ""),
		"the example's other":             inner(5),
		"a leaf of none":                  leaf(),
		"a leaf of none, lists of none":   {Leaf: true, Keys: []string{}, Values: []string{}, Kids: []int{}},
		"a leaf, kids of none":            {Leaf: true, Keys: []string{"k"}, Values: []string{"v"}, Kids: []int{}},
		"no leaf, values of none":         {Keys: []string{}, Values: []string{}, Kids: []int{7}},
		"the kid 0 alone":                 inner(0),
		"the kid 127 alone":               inner(127),
		"the kid 128 alone":               inner(128),
		"the kid 16383 alone":             inner(16383),
		"the kid 16384 alone":             inner(16384),
		"the kid 32767 alone":             inner(32767),
		"the kid 32768 alone":             inner(32768),
		"kids that fall":                  inner(32768, "a", 300, "b", 0),
		"kids that are the same":          inner(4, "a", 4, "b", 4),
		"bytes of all kinds":              leaf("\x00", "\xff", "\x00\x00", "\x00", "\x7f", "\n", "\x80", "\x80", "\xc3", "é", "\xff", "\""),
		"bytes of all kinds, no leaf":     inner(1, "\x00", 2, "\x00\x00", 3, "\x7f", 4, "\x80", 5, "é", 6, "\xff\xff", 7),
		"a key that begins the next":      leaf("a", "1", "aa", "2", "aaa", "3"),
		"a key of 32":                     leaf(long(0, 32), "v"),
		"a key of 32, no leaf":            inner(1, long(0, 32), 2),
		"a value of 64":                   leaf("k", strings.Repeat("v", 64)),
		"a value of 00s":                  leaf("k", strings.Repeat("\x00", 64)),
		"the greatest two pairs":          leafOf(2, 32, 64),
		"the greatest six keys":           innerOf(6, 32, 32768),
		"three pairs, a block":            sized(19, 19, 18),
		"three pairs, a byte more":        sized(19, 19, 19),
		"three pairs, a byte fewer":       sized(19, 18, 18),
		"seven keys, a block":             withKid(innerOf(7, 32, 32768), 3, 16383),
		"seven keys, a byte more":         innerOf(7, 32, 32768),
		"seven keys, a byte fewer":        withKid(withKid(innerOf(7, 32, 32768), 0, 128), 7, 128),
		"the greatest three pairs":        leafOf(3, 32, 64),
		"84 pairs of no bytes":            many(true, 84),
		"85 pairs of no bytes":            many(true, 85),
		"84 keys, 85 kids":                many(false, 84),
		"85 keys, 86 kids":                many(false, 85),
		"127 pairs":                       many(true, 127),
		"128 pairs":                       many(true, 128),
		"128 keys":                        many(false, 128),
		"256 pairs":                       many(true, 256),
		"257 keys":                        many(false, 257),
		"20000 pairs":                     many(true, 20000),
		"20000 keys":                      many(false, 20000),
		"a leaf, room behind its lists":   roomy(leaf("a", "x", "b", "")),
		"no leaf, room behind its lists":  roomy(inner(1, "a", 2)),
		"a leaf of none, room behind":     roomy(leaf()),
		"the kid 9 alone, room behind it": roomy(inner(9)),
	}
}

// sized is a leaf of three values of 64 bytes, and keys of so many: of 56 bytes of keys in all it fills a block.
func sized(keys ...int) node.Node {
	n := leafOf(3, 1, 64)
	for i, size := range keys {
		n.Keys[i] = long(i, size)
	}
	return n
}

// withKid is the node with another kid at a place.
func withKid(n node.Node, at, kid int) node.Node {
	n = cloned(n)
	n.Kids[at] = kid
	return n
}

// many is a node of so many short keys, with values of no bytes, or kids of one.
func many(isLeaf bool, keys int) node.Node {
	n := node.Node{Leaf: isLeaf}
	if !isLeaf {
		n.Kids = []int{1}
	}
	for i := range keys {
		key := string([]byte{byte(i)})
		if keys > 256 {
			key = string([]byte{byte(i >> 16), byte(i >> 8), byte(i)})
		}
		n.Keys = append(n.Keys, key)
		if isLeaf {
			n.Values = append(n.Values, "")
		} else {
			n.Kids = append(n.Kids, i%128)
		}
	}
	return n
}

// roomy is the node, with wrong things in the room behind its lists.
func roomy(n node.Node) node.Node {
	keys := append(slices.Clone(n.Keys), "", "", strings.Repeat("x", 99))
	values := append(slices.Clone(n.Values), strings.Repeat("x", 99), "b")
	kids := append(slices.Clone(n.Kids), -1, 99999)
	return node.Node{Leaf: n.Leaf, Keys: keys[:len(n.Keys)], Values: values[:len(n.Values)], Kids: kids[:len(n.Kids)]}
}

// wrong are nodes that may not be.
func wrong() map[string]node.Node {
	return map[string]node.Node{
		"nothing":                             {},
		"no kid":                              {Keys: []string{}, Values: []string{}, Kids: []int{}},
		"an empty key":                        leaf("", "v"),
		"an empty key, no leaf":               inner(1, "", 2),
		"an empty key ahead of another":       leaf("", "v", "b", "v"),
		"an empty key behind another":         leaf("a", "v", "", "v"),
		"a key of 33":                         leaf(long(0, 33), "v"),
		"a key of 33, no leaf":                inner(1, long(0, 33), 2),
		"a key of 33 ahead of another":        leaf(long(0, 33), "v", "b", "v"),
		"a key of 33 behind another":          inner(1, "A", 2, long(1, 33), 3),
		"keys that fall":                      leaf("b", "v", "a", "v"),
		"keys that fall, no leaf":             inner(1, "b", 2, "a", 3),
		"keys that fall at the end":           inner(1, "a", 2, "c", 3, "b", 4),
		"keys that fall in the midst":         leaf("a", "", "c", "", "b", "", "d", ""),
		"keys that are the same":              leaf("a", "v", "a", "v"),
		"keys that are the same, no leaf":     inner(1, "a", 2, "a", 3),
		"keys that fall by their length":      leaf("aa", "v", "a", "v"),
		"keys that fall as bytes":             leaf("\x80", "v", "\x7f", "v"),
		"keys that fall as bytes, no leaf":    inner(1, "\xff", 2, "é", 3),
		"keys that fall as bytes, not folded": leaf("a", "v", "B", "v"),
		"a value of 65":                       leaf("k", strings.Repeat("v", 65)),
		"a value of 65 ahead of another":      leaf("k", strings.Repeat("v", 65), "l", ""),
		"a value of 65 behind another":        leaf("k", "", "l", strings.Repeat("v", 65)),
		"a value too few":                     {Leaf: true, Keys: []string{"a", "b"}, Values: []string{"v"}},
		"a value too many":                    {Leaf: true, Keys: []string{"a"}, Values: []string{"v", "w"}},
		"a value of no key":                   {Leaf: true, Values: []string{""}},
		"a key of no value":                   {Leaf: true, Keys: []string{"a"}},
		"a leaf with a kid":                   {Leaf: true, Keys: []string{"a"}, Values: []string{"v"}, Kids: []int{0}},
		"a leaf of none with a kid":           {Leaf: true, Kids: []int{1}},
		"a leaf with kids for values":         {Leaf: true, Keys: []string{"a"}, Kids: []int{1}},
		"a leaf that is none":                 {Leaf: true, Keys: []string{"a"}, Kids: []int{1, 2}},
		"no leaf that is one":                 {Keys: []string{"a"}, Values: []string{"v"}},
		"no leaf with a value":                {Keys: []string{"a"}, Values: []string{""}, Kids: []int{1, 2}},
		"no leaf with a value, of no key":     {Values: []string{"v"}, Kids: []int{1}},
		"as many kids as keys":                {Keys: []string{"a"}, Kids: []int{1}},
		"a kid too many":                      {Keys: []string{"a"}, Kids: []int{1, 2, 3}},
		"a kid too many, of no key":           {Kids: []int{1, 2}},
		"a key of no kid":                     {Keys: []string{"a"}},
		"the kid -1":                          inner(-1),
		"the kid 32769":                       inner(32769),
		"the kid -1 behind":                   inner(0, "a", -1),
		"the kid 32769 behind":                inner(0, "a", 32769),
		"the kid -1 in the midst":             inner(0, "a", -1, "b", 0),
		"the least kid":                       inner(math.MinInt, "a", 1),
		"the greatest kid":                    inner(1, "a", math.MaxInt),
		"a kid past 32 bits":                  inner(1<<32, "a", 1<<32+1),
		"keys that fall, more than a block":   {Leaf: true, Keys: []string{long(2, 32), long(1, 32), long(0, 32)}, Values: leafOf(3, 32, 64).Values},
		"a value of 65, more than a block":    leafOf(3, 32, 65),
		"a key of 33, more than a block":      leafOf(3, 33, 64),
		"the kid 32769, more than a block":    innerOf(7, 32, 32769),
		"a kid too few, more than a block":    {Keys: innerOf(9, 32, 1).Keys, Kids: innerOf(8, 32, 1).Kids},
		"a long key":                          leaf(strings.Repeat("k", 100000), "v"),
		"a long value":                        leaf("k", strings.Repeat("v", 100000)),
	}
}

// drawn is a node that is drawn at random: it may be, or is a little off.
func drawn(from *rand.Rand) node.Node {
	n := node.Node{Leaf: from.IntN(2) == 0}
	if !n.Leaf {
		n.Kids = []int{drawnKid(from)}
	}
	for range from.IntN(9) {
		key := drawnText(from, []int{1, 1, 2, 3, 8, 31, 32})
		if from.IntN(150) == 0 {
			key = drawnText(from, []int{0, 33})
		}
		n.Keys = append(n.Keys, key)
	}
	if from.IntN(60) > 0 {
		slices.Sort(n.Keys)
		n.Keys = slices.Compact(n.Keys)
	}
	for range n.Keys {
		if n.Leaf {
			n.Values = append(n.Values, drawnText(from, []int{0, 0, 1, 5, 20, 63, 64}))
		} else {
			n.Kids = append(n.Kids, drawnKid(from))
		}
	}
	switch from.IntN(60) {
	case 0:
		n.Kids = append(n.Kids, drawnKid(from))
	case 1:
		n.Values = append(n.Values, drawnText(from, []int{0, 64, 65}))
	case 2:
		n.Leaf = !n.Leaf
	}
	return n
}

func drawnKid(from *rand.Rand) int {
	kids := []int{0, 1, 127, 128, 16383, 16384, 32767, 32768, from.IntN(32769)}
	if from.IntN(150) == 0 {
		kids = []int{-1, 32769, 65536, math.MaxInt}
	}
	return kids[from.IntN(len(kids))]
}

func drawnText(from *rand.Rand, sizes []int) string {
	b := make([]byte, sizes[from.IntN(len(sizes))])
	for i := range b {
		b[i] = "\x00\x01ab\x7f\x80\xff"[from.IntN(7)]
	}
	return string(b)
}
