package node_test

import (
	"bytes"
	"math/rand/v2"
	"slices"
	"strings"
	"testing"

	"bastion/api"
	"bastion/node"
)

// block is bytes with 00s behind them, up to a block.
func block(b string) []byte {
	return append([]byte(b), make([]byte, 256-len(b))...)
}

// P6.1: the bytes of nodes, byte for byte, and their sizes.
func TestBytes(t *testing.T) {
	v64 := strings.Repeat("v", 64)
	for _, c := range []struct {
		n    node.Node
		want string
	}{
		{leaf("a", "x", "b", ""), "\x01\x02\x01a\x01x\x01b\x00"},
		{inner(5), "\x00\x00\x05"},
		{leaf(), "\x01\x00"},
		{inner(0), "\x00\x00\x00"},
		{leaf("k", ""), "\x01\x01\x01k\x00"},
		{leaf("k", v64), "\x01\x01\x01k\x40" + v64},
		{leaf(long(0, 32), "no"), "\x01\x01\x20" + long(0, 32) + "\x02no"},
		{inner(1, "m", 2), "\x00\x01\x01\x01m\x02"},
		{inner(300, "a", 0, "bc", 32768), "\x00\x02\xac\x02\x01a\x00\x02bc\x80\x80\x02"},
		{inner(127, "\x00", 128), "\x00\x01\x7f\x01\x00\x80\x01"},
	} {
		if b := encoded(t, c.n); !bytes.Equal(b, block(c.want)) {
			t.Errorf("Encode of %s: % x; want % x", shown(c.n), b, c.want)
		}
		if size := node.Size(c.n); size != len(c.want) {
			t.Errorf("Size of %s: %d; want %d", shown(c.n), size, len(c.want))
		}
		if !node.Fits(c.n) {
			t.Errorf("%s does not fit", shown(c.n))
		}
		if n, e := node.Decode(block(c.want)); e != api.OK || !same(n, c.n) {
			t.Errorf("Decode of % x: %s, %d; want %s", c.want, shown(n), int(e), shown(c.n))
		}
	}
}

// P6.1: sizes beside a block's, and what fits; the size is told of what does not fit, too.
func TestSizes(t *testing.T) {
	all := good()
	for name, want := range map[string]int{
		"the greatest two pairs":    198,
		"the greatest six keys":     221,
		"three pairs, a byte fewer": 255,
		"three pairs, a block":      256,
		"three pairs, a byte more":  257,
		"seven keys, a byte fewer":  255,
		"seven keys, a block":       256,
		"seven keys, a byte more":   257,
		"the greatest three pairs":  296,
		"84 pairs of no bytes":      254,
		"85 pairs of no bytes":      257,
		"84 keys, 85 kids":          255,
		"85 keys, 86 kids":          258,
		"127 pairs":                 2 + 127*3,
		"128 pairs":                 3 + 128*3,
		"128 keys":                  4 + 128*3,
		"20000 pairs":               4 + 20000*5,
		"20000 keys":                5 + 20000*5,
	} {
		n, there := all[name]
		if !there {
			t.Fatalf("there is no %q", name)
		}
		if size, fits := node.Size(n), node.Fits(n); size != want || fits != (want <= 256) {
			t.Errorf("%s: Size %d, Fits %v; want %d", name, size, fits, want)
		}
		if b, e := node.Encode(n); want > 256 && (len(b) != 0 || e != api.ErrFull) {
			t.Errorf("%s: Encode: % x, %d", name, b, int(e))
		}
	}
}

// P6.1 to P6.3: nodes that may be, as they are told a second time.
func TestGood(t *testing.T) {
	for name, n := range good() {
		t.Run(name, func(t *testing.T) {
			if !mayBeTold(n) {
				t.Fatal("may not be")
			}
			checkNode(t, n)
		})
	}
}

// The table of errors: Encode, in its order: what may not be is ErrArg, be it too large, too; P6.1, P6.2: its Size is 0, it does not Fit, nothing is found.
func TestWrong(t *testing.T) {
	for name, n := range wrong() {
		t.Run(name, func(t *testing.T) {
			if mayBeTold(n) {
				t.Fatal("may be")
			}
			checkRefused(t, n)
		})
	}
}

// P6.1 to P6.4: whatever the node: all answers are as they are told a second time.
func TestDrawn(t *testing.T) {
	from := rand.New(rand.NewPCG(6, 2026))
	var refused, full, fit int
	for range 6000 {
		n := drawn(from)
		checkNode(t, n)
		switch _, e := encodeTold(n); e {
		case api.ErrArg:
			refused++
		case api.ErrFull:
			full++
		default:
			fit++
			checkRoom(t, n)
		}
		if t.Failed() {
			return
		}
	}
	if refused < 300 || full < 300 || fit < 3000 {
		t.Errorf("%d were refused, %d too large, %d fit", refused, full, fit)
	}
}

// The chapter's examples.
func TestExamples(t *testing.T) {
	first := leaf("a", "x", "b", "")
	if b := encoded(t, first); !bytes.Equal(b, block("\x01\x02\x01\x61\x01\x78\x01\x62\x00")) || node.Size(first) != 9 {
		t.Errorf("% x, %d", b, node.Size(first))
	}
	if b := encoded(t, node.Node{Kids: []int{5}}); !bytes.Equal(b, block("\x00\x00\x05")) {
		t.Errorf("% x", b)
	}
	checkRefused(t, leaf("b", "", "a", ""))
	checkRefused(t, inner(1, "b", 2, "a", 3))
	if b, e := node.Encode(leafOf(3, 32, 64)); len(b) != 0 || e != api.ErrFull {
		t.Errorf("% x, %d", b, int(e))
	}
	checkNotDecoded(t, block("\x02"))
	for _, c := range []struct {
		key  string
		want int
		is   bool
	}{{"aa", 1, false}, {"b", 1, true}} {
		if i, is := node.Find(first, c.key); i != c.want || is != c.is {
			t.Errorf("Find of %s: %d, %v", c.key, i, is)
		}
	}
}

// P6.2: where keys are, and would be, of each length of a node.
func TestFind(t *testing.T) {
	for keys := range 12 {
		var pairs []string
		var kids []any
		for i := range keys {
			pairs = append(pairs, string([]byte{byte('b' + 2*i)}), "v")
			kids = append(kids, string([]byte{byte('b' + 2*i)}), i)
		}
		for _, n := range []node.Node{leaf(pairs...), inner(9, kids...)} {
			for i := range keys {
				checkFound(t, n, string([]byte{byte('a' + 2*i)}), i, false)
				checkFound(t, n, string([]byte{byte('b' + 2*i)}), i, true)
				checkFound(t, n, string([]byte{byte('b' + 2*i)})+"\x00", i+1, false)
			}
			checkFound(t, n, "", 0, false)
			checkFound(t, n, "a", 0, false)
			checkFound(t, n, "\xff", keys, false)
			checkFound(t, n, strings.Repeat("\xff", 1000), keys, false)
		}
	}
}

func checkFound(t *testing.T, n node.Node, key string, want int, wantIs bool) {
	t.Helper()
	if i, is := node.Find(n, key); i != want || is != wantIs {
		t.Errorf("Find of %q in %s: %d, %v; want %d, %v", key, shown(n), i, is, want, wantIs)
	}
}

// P6.2: of a node that may be and does not fit, too.
func TestFindInLarge(t *testing.T) {
	n := many(false, 20000)
	for _, at := range []int{0, 1, 255, 256, 9999, 19999} {
		checkFound(t, n, n.Keys[at], at, true)
		checkFound(t, n, n.Keys[at]+"\x00", at+1, false)
	}
}

// R2 and R3: the answers hang on the arguments alone, and the node stays as it is, with the room behind its lists.
func TestNothingKept(t *testing.T) {
	keys := []string{"a", "b", "c"}
	values := []string{"1", "2", strings.Repeat("v", 65)}
	n := node.Node{Leaf: true, Keys: keys[:2], Values: values[:2]}
	first := encoded(t, n)
	values[0] = "9"
	second := encoded(t, n)
	if !bytes.Equal(first, block("\x01\x02\x01a\x011\x01b\x012")) || !bytes.Equal(second, block("\x01\x02\x01a\x019\x01b\x012")) {
		t.Errorf("% x; % x", first, second)
	}
	if !slices.Equal(keys, []string{"a", "b", "c"}) || len(values[2]) != 65 {
		t.Errorf("what was handed in is changed: %q, %q", keys, values)
	}
}

// R3: the bytes are new memory, with all their room.
func TestBytesAreApart(t *testing.T) {
	for _, n := range []node.Node{leaf(), inner(5), leafOf(2, 32, 64), good()["seven keys, a block"]} {
		first, second := encoded(t, n), encoded(t, n)
		kept := bytes.Clone(second)
		room := first[:cap(first)]
		for i := range room {
			room[i] = 0x55
		}
		if !bytes.Equal(second, kept) || !bytes.Equal(encoded(t, n), kept) {
			t.Errorf("other bytes show what was written: % x", second)
		}
	}
}
