package code_test

import (
	"bytes"
	"math"
	"testing"

	"bastion/api"
	"bastion/code"
)

const (
	onePast  = api.MaxCount + 1
	greatest = math.MaxInt
)

// P1.1, example 1.
func TestBytesOfExamples(t *testing.T) {
	for _, c := range []struct {
		got  []byte
		want string
	}{
		{code.Count(nil, 300), "\xac\x02"},
		{code.Count(nil, -5), ""},
		{code.Count(nil, 0), "\x00"},
		{code.Count(nil, 127), "\x7f"},
		{code.Count(nil, 128), "\x80\x01"},
		{code.Count(nil, api.MaxCount), "\xff\xff\xff\xff\x07"},
		{code.Num(nil, 0), "\x00"},
		{code.Num(nil, -1), "\x01"},
		{code.Num(nil, 1), "\x02"},
		{code.Num(nil, -3), "\x05"},
		{code.Num(nil, 63), "\x7e"},
		{code.Num(nil, -64), "\x7f"},
		{code.Num(nil, 64), "\x80\x01"},
		{code.Num(nil, -65), "\x81\x01"},
		{code.Num(nil, math.MaxInt64), "\xfe\xff\xff\xff\xff\xff\xff\xff\xff\x01"},
		{code.Num(nil, math.MinInt64), "\xff\xff\xff\xff\xff\xff\xff\xff\xff\x01"},
		{code.Str(nil, "no"), "\x02no"},
		{code.Str(nil, ""), "\x00"},
		{code.Flag(nil, false), "\x00"},
		{code.Flag(nil, true), "\x01"},
	} {
		if string(c.got) != c.want {
			t.Errorf("% x, want % x", c.got, c.want)
		}
	}
}

// P1.1: the bytes of each kind's things, behind whatever stood there.
func TestBytesBehind(t *testing.T) {
	for _, k := range kinds() {
		for _, thing := range k.things() {
			for _, b := range []string{"", "b", "\x80\x80", "some more"} {
				want := b + string(k.want(thing))
				if got := k.lay([]byte(b), thing); string(got) != want {
					t.Errorf("%s(%q, %s): % .60x, want % .60x", k.name, b, shown(thing), got, want)
				}
			}
		}
	}
}

// P1.1: of what is no count, b alone.
func TestNoCount(t *testing.T) {
	for _, n := range []int{-1, -5, -300, -api.MaxCount, math.MinInt, onePast, greatest} {
		if got := code.Count([]byte("some"), n); string(got) != "some" {
			t.Errorf("Count of %d: %q", n, got)
		}
		if got := code.Count(nil, n); len(got) != 0 {
			t.Errorf("Count of %d behind nothing: %q", n, got)
		}
	}
}

// layers are all ways in which a list is answered.
func layers() map[string]func(b []byte) []byte {
	return map[string]func(b []byte) []byte{
		"Num":            func(b []byte) []byte { return code.Num(b, -70000) },
		"Count":          func(b []byte) []byte { return code.Count(b, 70000) },
		"Count below 0":  func(b []byte) []byte { return code.Count(b, -1) },
		"Count too much": func(b []byte) []byte { return code.Count(b, onePast) },
		"Str":            func(b []byte) []byte { return code.Str(b, "text") },
		"Str of none":    func(b []byte) []byte { return code.Str(b, "") },
		"Flag":           func(b []byte) []byte { return code.Flag(b, true) },
	}
}

// P1.1 with R3: the list that is handed in stays as it is, with the room behind its end, and the answer shares nothing with it.
func TestListOfItsOwn(t *testing.T) {
	for name, lay := range layers() {
		room := bytes.Repeat([]byte{0xee}, 64)
		copy(room, "head")
		kept := bytes.Clone(room)
		got := lay(room[:4])
		if !bytes.Equal(room, kept) {
			t.Errorf("%s: what was handed in is changed: % x", name, room)
		}
		answer := bytes.Clone(got)
		for i := range room {
			room[i] = 0xdd
		}
		if !bytes.Equal(got, answer) {
			t.Errorf("%s: the answer shows what is written to what was handed in", name)
		}
		copy(room, kept)
		spoil(got)
		if !bytes.Equal(room, kept) {
			t.Errorf("%s: what was handed in shows what is written to the answer", name)
		}
	}
}

// P1.1 with R3: two answers share nothing, their spare room neither, and no later answer shows what was written to one.
func TestAnswersApart(t *testing.T) {
	for name, lay := range layers() {
		for _, b := range [][]byte{nil, {}, []byte("head"), make([]byte, 2, 64)} {
			first, second := lay(b), lay(b)
			kept := bytes.Clone(second[:cap(second)])
			spoil(first)
			if !bytes.Equal(second[:cap(second)], kept) {
				t.Errorf("%s: two answers share memory", name)
			}
			if third := lay(b); !bytes.Equal(third, second) {
				t.Errorf("%s: a later answer is % x, not % x", name, third, second)
			}
		}
	}
}

// spoil writes to all of a list, and to its spare room.
func spoil(b []byte) {
	all := b[:cap(b)]
	for i := range all {
		all[i] = 0x55
	}
}

// P1.4: no thing's bytes begin those of another one.
func TestApart(t *testing.T) {
	for _, k := range kinds() {
		things := k.things()
		laid := make([][]byte, len(things))
		for i, thing := range things {
			laid[i] = k.lay(nil, thing)
		}
		for i := range laid {
			for j := range laid {
				if i != j && bytes.HasPrefix(laid[j], laid[i]) {
					t.Errorf("%s: the bytes of %s begin those of %s", k.name, shown(things[i]), shown(things[j]))
				}
			}
		}
	}
}

// P1.5: numbers farther from 0 have no fewer bytes; 1 to 10 of them.
func TestNumLengths(t *testing.T) {
	all := numbers()
	size := func(i int) int { return len(code.Num(nil, all[i].(int64))) }
	for i := range all {
		if n := size(i); n < 1 || n > 10 {
			t.Errorf("Num of %v has %d bytes", all[i], n)
		}
		if i == 0 {
			continue
		}
		ahead, here := size(i-1), size(i)
		if n := all[i].(int64); n < 0 && ahead < here || n > 0 && ahead > here {
			t.Errorf("Num of %v has %d bytes, of %v %d", all[i-1], ahead, n, here)
		}
	}
	if n := len(code.Num(nil, math.MinInt64)); n != 10 {
		t.Errorf("Num of -2^63 has %d bytes", n)
	}
}

// P1.5: a count has 1 to 5 bytes, no more than the number; a text its own and those of its length.
func TestCountAndTextLengths(t *testing.T) {
	for _, c := range counts() {
		n := c.(int)
		size := len(code.Count(nil, n))
		if size < 1 || size > 5 || size > len(code.Num(nil, int64(n))) {
			t.Errorf("Count of %d has %d bytes", n, size)
		}
	}
	for _, thing := range texts() {
		s := thing.(string)
		if size := len(code.Str(nil, s)); size != len(s)+len(code.Count(nil, len(s))) {
			t.Errorf("Str of %d bytes has %d", len(s), size)
		}
	}
}
