package node_test

import (
	"bytes"
	"math/rand/v2"
	"slices"
	"strings"
	"testing"

	"bastion/api"
	"bastion/node"
)

// wrongBlocks are blocks that are no node's.
func wrongBlocks() map[string]string {
	v64 := strings.Repeat("v", 64)
	return map[string]string{
		"a truth value that is none":       "\x02",
		"a truth value of groups":          "\x80\x00\x00",
		"keys without bytes":               "\x01\x01",
		"a key without bytes":              "\x01\x01\x00\x01v",
		"a key without bytes, no leaf":     "\x00\x01\x05\x00\x06",
		"a key of 33":                      "\x01\x01\x21" + long(0, 33) + "\x01v",
		"a key of 33, no leaf":             "\x00\x01\x05\x21" + long(0, 33) + "\x06",
		"a value of 65":                    "\x01\x01\x01k\x41" + v64 + "v",
		"keys that fall":                   "\x01\x02\x01b\x00\x01a\x00",
		"keys that fall, no leaf":          "\x00\x02\x01\x01b\x02\x01a\x03",
		"keys that are the same":           "\x01\x02\x01a\x00\x01a\x00",
		"keys that fall as bytes":          "\x01\x02\x01\x80\x00\x01\x7f\x00",
		"a kid of 32769":                   "\x00\x00\x81\x80\x02",
		"a kid of 32769 behind a key":      "\x00\x01\x01\x01k\x81\x80\x02",
		"a kid of 65536":                   "\x00\x00\x80\x80\x04",
		"a kid past 32 bits":               "\x00\x00\x80\x80\x80\x80\x10",
		"a kid of a group too many":        "\x00\x00\x85\x00",
		"a kid, of groups for 64 bits":     "\x00\x00" + strings.Repeat("\xff", 9) + "\x01",
		"a key's length, a group too many": "\x01\x01\x81\x00k\x01v",
		"a value's length, too":            "\x01\x01\x01k\x81\x00v",
		"a count of a group too many":      "\x01\x81\x00\x01k\x01v",
		"a count of 0, of two groups":      "\x01\x80\x00",
		"more keys than there are":         "\x01\x03\x01a\x01x\x01b\x00",
		"fewer keys than there are":        "\x01\x01\x01a\x01x\x01b\x00",
		"no key of those that there are":   "\x01\x00\x01a\x01x",
		"more kids than there are":         "\x00\x02\x01\x01a\x02",
		"a kid behind the last one":        "\x00\x01\x01\x01a\x02\x03",
		"a byte behind a leaf":             "\x01\x00\x01",
		"a byte behind the first kid":      "\x00\x00\x05\x01",
		"85 keys":                          "\x01\x55" + strings.Repeat("\x01k\x00", 84) + "\x01k",
		"255 keys":                         "\x01\xff\x01",
		"257 keys":                         "\x01\x81\x02",
		"the greatest count":               "\x01\xff\xff\xff\xff\x07",
		"a count of 64 bits":               "\x00" + strings.Repeat("\xff", 9) + "\x01",
		"the last byte":                    "\x01\x00" + strings.Repeat("\x00", 253) + "\x01",
		"a key that has no end":            "\x01\x02\x20" + long(0, 32) + "\x40" + v64 + "\x20" + long(1, 32) + "\x40" + v64 + strings.Repeat("\x00", 56) + "\x20\x01",
		"a value that has no end":          ("\x01\x03" + threePairs(57))[:256],
		"all bytes are FF":                 strings.Repeat("\xff", 256),
		"all bytes are 01":                 strings.Repeat("\x01", 256),
		"all bytes are 80":                 strings.Repeat("\x80", 256),
	}
}

// threePairs are the bytes of three pairs, with values of 64 bytes, and so many bytes of keys in all: 56 fill a block.
func threePairs(keys int) string {
	var b strings.Builder
	for i, size := range []int{19, 19, keys - 38} {
		b.WriteString(string([]byte{byte(size)}) + long(i, size) + "\x40" + strings.Repeat("v", 64))
	}
	return b.String()
}

// The table of errors: Decode.
func TestDecodeRefused(t *testing.T) {
	for name, s := range wrongBlocks() {
		t.Run(name, func(t *testing.T) {
			checkNotDecoded(t, block(s))
			checkDecode(t, block(s))
		})
	}
}

// The table of errors: Decode of other lengths than a block's, whatever stands there.
func TestDecodeOfOtherLengths(t *testing.T) {
	checkNotDecoded(t, nil)
	for _, n := range []node.Node{leaf(), inner(0), inner(5), leaf("a", "x", "b", ""), sized(19, 19, 18)} {
		b := encoded(t, n)
		for size := range 256 {
			checkNotDecoded(t, b[:size])
		}
		for _, more := range []int{1, 2, 3, 256, 100000} {
			checkNotDecoded(t, append(bytes.Clone(b), make([]byte, more)...))
		}
		checkNotDecoded(t, append(bytes.Clone(b), b...))
		checkNotDecoded(t, append([]byte{0}, b...))
		checkNotDecoded(t, bodyTold(n)[:min(255, node.Size(n))])
	}
}

// P6.1: a block of 00s is a node's: that of the kid 0 alone.
func TestDecodeOfNoughts(t *testing.T) {
	if n, e := node.Decode(make([]byte, 256)); e != api.OK || !same(n, inner(0)) {
		t.Errorf("%s, %d", shown(n), int(e))
	}
}

// P6.1, P6.3: each byte behind a node's own must be 00.
func TestDecodeOfBytesBehind(t *testing.T) {
	for _, n := range []node.Node{leaf(), inner(5), leaf("a", "x", "b", ""), inner(1, "m", 300), leafOf(2, 32, 64), innerOf(6, 32, 32768)} {
		for at := node.Size(n); at < 256; at++ {
			for _, c := range []byte{1, 0x80, 0xff} {
				b := encoded(t, n)
				b[at] = c
				checkNotDecoded(t, b)
			}
		}
	}
}

// P6.3: of nodes' bytes with any one bit turned: another node, which has just these bytes, or none.
func TestDecodeOfTurnedBits(t *testing.T) {
	for name, n := range good() {
		if !node.Fits(n) {
			continue
		}
		t.Run(name, func(t *testing.T) {
			b := encoded(t, n)
			for i := range 8 * len(b) {
				turned := bytes.Clone(b)
				turned[i/8] ^= 1 << (i % 8)
				checkDecode(t, turned)
				if m, e := node.Decode(turned); e == api.OK && same(m, n) {
					t.Errorf("the bit %d does not matter", i)
				}
			}
		})
	}
}

// P6.1, P6.3: whatever the bytes: they are a node's, or refused.
func TestDecodeOfAnyBytes(t *testing.T) {
	for i := range 1 << 16 {
		checkDecode(t, block(string([]byte{0, byte(i >> 8), byte(i)})))
		checkDecode(t, block(string([]byte{1, byte(i >> 8), byte(i)})))
	}
	from := rand.New(rand.NewPCG(66, 2026))
	var nodes int
	for range 20000 {
		b := drawnBlock(from)
		checkDecode(t, b)
		if _, e := decodeTold(b); e == api.OK {
			nodes++
		}
	}
	if nodes < 2000 || nodes > 18000 {
		t.Errorf("%d are nodes", nodes)
	}
}

// drawnBlock is the bytes of things as a node has them, with something off at times.
func drawnBlock(from *rand.Rand) []byte {
	isLeaf, keys := from.IntN(2) == 0, from.IntN(6)
	n := node.Node{Leaf: isLeaf}
	if !isLeaf {
		n.Kids = []int{drawnKid(from)}
	}
	last := ""
	for range keys {
		key := drawnText(from, []int{1, 2, 4, 32})
		if key <= last && from.IntN(8) > 0 {
			continue
		}
		last = key
		n.Keys = append(n.Keys, key)
		if isLeaf {
			n.Values = append(n.Values, drawnText(from, []int{0, 1, 9, 64, 64, 65}))
		} else {
			n.Kids = append(n.Kids, max(0, drawnKid(from)))
		}
	}
	b := bodyTold(n)
	b = append(b, make([]byte, max(0, 256-len(b)))...)[:256]
	if from.IntN(3) == 0 {
		b[from.IntN(1+min(len(bodyTold(n)), 255))] = byte(from.IntN(256))
	}
	return b
}

// R3: what is decoded is not changed, not read behind its end, not kept.
func TestDecodedIsNotKept(t *testing.T) {
	for _, want := range []node.Node{leaf("a", "x", "b", ""), inner(300, "m", 2), sized(19, 19, 18)} {
		room := append(encoded(t, want), bytes.Repeat([]byte{0xee}, 64)...)
		kept := bytes.Clone(room)
		n, e := node.Decode(room[:256])
		if e != api.OK || !same(n, want) {
			t.Fatalf("%s, %d; want %s", shown(n), int(e), shown(want))
		}
		checkNotDecoded(t, room[:255])
		if !bytes.Equal(room, kept) {
			t.Errorf("what was handed in is changed: % x", room)
		}
		for i := range room {
			room[i] = 'z'
		}
		if !same(n, want) {
			t.Errorf("what was decoded shows what was written: %s", shown(n))
		}
	}
}

// R3: the lists of a node that was decoded are new memory, and share none.
func TestDecodedIsApart(t *testing.T) {
	for _, want := range []node.Node{leaf("a", "x", "b", "", "c", "y"), inner(300, "m", 2, "n", 3)} {
		b := encoded(t, want)
		first, _ := node.Decode(b)
		second, _ := node.Decode(b)
		spoil(first.Keys, "spoilt")
		if !slices.Equal(first.Values, want.Values) || !slices.Equal(first.Kids, want.Kids) {
			t.Errorf("lists of one node share memory: %s", shown(first))
		}
		spoil(first.Values, "spoilt")
		spoil(first.Kids, 77)
		for _, key := range first.Keys {
			if key != "spoilt" {
				t.Errorf("lists of one node share memory: %s", shown(first))
			}
		}
		if third, e := node.Decode(b); e != api.OK || !same(second, want) || !same(third, want) {
			t.Errorf("other nodes show what was written: %s, %s", shown(second), shown(third))
		}
	}
}

// spoil writes to all of a list, and to its spare room.
func spoil[T any](list []T, what T) {
	all := list[:cap(list)]
	for i := range all {
		all[i] = what
	}
}
