package blob_test

import (
	"bytes"
	"encoding/binary"
	"hash/fnv"
	"math/rand/v2"
	"slices"
	"strings"
	"testing"

	"bastion/api"
)

// The table of errors: on blocks of 00s no value stands; a taken one is ErrForm to Get, Blocks and Drop, and any one to Claim, ahead of ErrTwice.
func TestNoValueStands(t *testing.T) {
	b, w := newBench(t, 512, 200, 40), newTold(40)
	for _, i := range []int{0, 1, 7, 39} {
		b.m.Claim(i)
		w.hold(true, i)
	}
	checkWritten(t, b, nil, func() {
		for _, i := range w.list(true) {
			checkRefused(t, b.Desk, i, api.ErrForm)
		}
		for i := range 40 {
			checkClaimRefused(t, b.Desk, i, api.ErrForm)
		}
	})
	checkAll(t, b, w)
}

// checkAnything calls all that may be called of an id of which nothing is promised, and tells where anything is written, stands beside an error, or has changed behind one.
func checkAnything(t *testing.T, b *bench, id int) {
	t.Helper()
	was := b.m.List()
	refused := func(call string, e, other api.Errno, zero bool) {
		t.Helper()
		if e != api.OK && (e != api.ErrForm && e != other || !zero || !slices.Equal(b.m.List(), was)) {
			t.Errorf("%s(%d): %d, zero beside it: %v, the map was %v, and is %v", call, id, int(e), zero, was, b.m.List())
		}
		was = b.m.List()
	}
	checkWritten(t, b, nil, func() {
		if !b.m.Taken(id) {
			refused("Claim", b.Claim(id), api.ErrTwice, true)
		}
		s, e := b.Get(id)
		refused("Get", e, api.ErrNone, s == "")
		l, e := b.Blocks(id)
		refused("Blocks", e, api.ErrNone, len(l) == 0)
		refused("Claim", b.Claim(id), api.ErrTwice, true)
		refused("Drop", b.Drop(id), api.ErrNone, true)
	})
}

// junk are blocks that no desk wrote.
func junk(n, seed int) [][]byte {
	from := rand.New(rand.NewPCG(88, uint64(seed)))
	l := make([][]byte, n)
	for i := range l {
		switch from.IntN(4) {
		case 0:
			l[i] = bytes.Repeat([]byte{byte(from.IntN(256))}, 256)
		case 1:
			l[i] = []byte(text(256, seed+i))
		case 2:
			// Small numbers, as of blocks: what links to itself, or round about.
			l[i] = bytes.Repeat([]byte{byte(from.IntN(n)), 0}, 128)
		default:
			l[i] = make([]byte, 256)
			for at := range l[i] {
				l[i][at] = byte(from.IntN(n) * from.IntN(2))
			}
		}
	}
	return l
}

// R1: of blocks that no desk wrote, each call ends, none panics, and nothing is written.
func TestJunk(t *testing.T) {
	for seed := range 60 {
		b := newBench(t, 512, 200, 20)
		for i, block := range junk(20, seed) {
			if e := b.j.Raw(200+i, block); e != api.OK {
				t.Fatalf("Raw: %d", int(e))
			}
			if i%3 > 0 {
				b.m.Claim(i)
			}
		}
		for id := range 20 {
			checkAnything(t, b, id)
			b.m.Claim(id)
			checkAnything(t, b, id)
			b.m.Claim(id)
		}
	}
}

// R1: of a value of which any one bit was turned on the disk, or whose blocks were laid elsewhere, each call ends, none panics, nothing is written, and other values are as they were.
func TestTurned(t *testing.T) {
	base, told := newBench(t, 512, 200, 20), newTold(20)
	checkPut(t, base, told, text(300, 1))
	checkPut(t, base, told, text(700, 2))
	checkPut(t, base, told, "x")
	other := told.kept[7]
	for place := 3; place < 7; place++ {
		for bit := 0; bit < 2048; bit += 1 + 60*min(1, bit/200) {
			b := base.copied(t)
			block, _ := b.j.Read(200 + place)
			block[bit/8] ^= 1 << (bit % 8)
			b.j.Raw(200+place, block)
			checkAnything(t, b, 3)
			checkKept(t, b, 0, told.kept[0])
			checkKept(t, b, 7, other)
		}
		for from := range 10 {
			b := base.copied(t)
			block, _ := b.j.Read(200 + from)
			b.j.Raw(200+place, block)
			for id := range 10 {
				b.m.Claim(id)
				checkAnything(t, b, id)
			}
		}
	}
}

// R1: a map that ends within a value, and a desk whose blocks begin elsewhere, find there what they may; nothing is written.
func TestOtherBlocks(t *testing.T) {
	b, w := newBench(t, 512, 200, 20), newTold(20)
	checkPut(t, b, w, text(300, 1))
	checkPut(t, b, w, text(700, 2))
	for n := range 12 {
		for base := 196; base < 206; base++ {
			other := benchOn(t, b.d, base, newMap(t, n))
			for id := range n {
				other.m.Claim(id)
				checkAnything(t, other, id)
			}
		}
	}
	checkAll(t, b, w)
}

// rawOf are the bytes of the first n blocks of a desk, as they stand on the disk, as one text.
func rawOf(t *testing.T, b *bench, n int) string {
	t.Helper()
	var all strings.Builder
	for i := range n {
		block, e := b.j.Read(b.base + i)
		if e != api.OK {
			t.Fatalf("Read: %d", int(e))
		}
		all.Write(block)
	}
	return all.String()
}

// P8.2, P8.4, P8.5: values that hold, byte by byte moved on, what stands on blocks of values: each is as it was put, and all blocks are whose they are.
func TestValuesOfBlocks(t *testing.T) {
	for moved := range 20 {
		b, w := newBench(t, 700, 200, 100), newTold(100)
		checkPut(t, b, w, text(300, 1))
		checkPut(t, b, w, text(700, 2))
		raw := rawOf(t, b, 7)
		checkDrop(t, b, w, 0)
		for no := range 4 {
			checkPut(t, b, w, text(moved, no)+raw+raw[no*100:])
		}
		checkAll(t, b, w)
		for _, i := range w.list(true) {
			if _, is := w.kept[i]; !is {
				b.Get(i)
				b.Blocks(i)
			}
		}
		checkAll(t, b, w)
		again, v := checkRestarted(t, b, w)
		checkAll(t, again, v)
	}
}

// checkTakenAgain tells where Get and Blocks of an id that was dropped, and taken again, are neither ErrForm nor what they are of the value that has it now.
func checkTakenAgain(t *testing.T, b *bench, w *told, id int) {
	t.Helper()
	for _, v := range w.kept {
		if !slices.Contains(v.blocks, id) {
			continue
		}
		if s, e := b.Get(id); !(e == api.OK && s == v.data || e == api.ErrForm && s == "") {
			t.Errorf("Get(%d): %.20q, %d, of %d bytes at %v", id, s, int(e), len(v.data), v.blocks)
		}
		if l, e := b.Blocks(id); !(e == api.OK && slices.Equal(l, v.blocks) || e == api.ErrForm && len(l) == 0) {
			t.Errorf("Blocks(%d): %v, %d, of %v", id, l, int(e), v.blocks)
		}
	}
}

// The chapter's last words on P8.3: an id that was dropped, and taken again by another value, of fewer bytes, of more, or of as many.
func TestTakenAgain(t *testing.T) {
	for _, first := range []int{0, 257, 700, 31000} {
		for _, second := range []int{0, 1, 257, 700, 1000, 31000, 32000} {
			b, w := newBench(t, 700, 200, 400), newTold(400)
			checkPut(t, b, w, text(10, 1))
			checkPut(t, b, w, text(first, 2))
			checkPut(t, b, w, text(first, 3))
			ids := []int{0, 2, 2 + needed(first)}
			checkDrop(t, b, w, 2)
			checkDrop(t, b, w, 0)
			for no := range 3 {
				if needed(second) <= len(w.list(false)) {
					checkPut(t, b, w, text(second, 4+no))
				}
				for _, id := range ids[:2] {
					checkTakenAgain(t, b, w, id)
				}
			}
			checkAll(t, b, w)
			checkKept(t, b, ids[2], value{text(first, 3), w.kept[ids[2]].blocks})
		}
	}
}

// laid are the bytes of a block and of the one behind it, as if a value of n bytes began on the first and ended on the second, which links to back: as this program lays values (two bytes of a link, three of the size, eight of the sum of all else).
func laid(n, next, back int) (head, last []byte) {
	head = append([]byte{byte(next), 0, byte(n), byte(n >> 8), 0}, make([]byte, 8)...)
	head = append(head, text(243, n)...)
	last = append([]byte{byte(back), 0}, text(254, n+1)...)
	sum := fnv.New64a()
	for _, part := range [][]byte{head[:5], head[13:], last} {
		sum.Write(part)
	}
	binary.LittleEndian.PutUint64(head[5:], sum.Sum64())
	return head, last
}

// The table of errors: a value that was laid, and of which one bit is another, is none; nor is one whose blocks do not follow one another as they must.
func TestLaidWrong(t *testing.T) {
	check := func(at, lastAt int, head, last []byte) {
		t.Helper()
		b := newBench(t, 512, 200, 6)
		b.j.Raw(200+at, head)
		b.j.Raw(200+lastAt, last)
		checkClaimRefused(t, b.Desk, at, api.ErrForm)
		b.m.Claim(at)
		checkRefused(t, b.Desk, at, api.ErrForm)
	}
	for bit := 0; bit < 2*2048; bit += 1 + 12*min(1, bit/200) {
		head, last := laid(250, 3, 2)
		if bit < 2048 {
			head[bit/8] ^= 1 << (bit % 8)
		} else {
			last[bit/8-256] ^= 1 << (bit % 8)
		}
		check(2, 3, head, last)
	}
	for _, c := range []struct{ n, next, back int }{{250, 3, 0}, {250, 3, 1}, {250, 3, 3}, {250, 3, 4}, {250, 2, 2}, {250, 1, 2}, {250, 0, 2}, {250, 6, 2}, {250, 255, 2}, {257, 3, 2}, {5000, 3, 2}} {
		head, last := laid(c.n, c.next, c.back)
		check(2, 3, head, last)
	}
	for _, lastAt := range []int{0, 1} {
		head, last := laid(250, lastAt, 2)
		check(2, lastAt, head, last)
	}
}

// imitation are bytes of a value of four blocks, 0 to 3, of which the one at at is as if a value of n bytes began there, and ended on the next one.
func imitation(n, at int) string {
	head, next := laid(n, at+1, (at+2)%4)
	data := text(1000, 9)
	start := 243 + 254*(at-1)
	return data[:start] + string(head[2:]) + string(next[2:]) + data[min(1000, start+508):]
}

// The chapter's last words on P8.3: an id that was dropped, and taken again by a value whose bytes look there as if a value began.
func TestImitation(t *testing.T) {
	for _, at := range []int{1, 2} {
		for _, n := range []int{0, 1, 200, 256} {
			b, w := newBench(t, 512, 200, 12), newTold(12)
			for i := range at {
				b.m.Claim(i)
				w.hold(true, i)
			}
			if id := checkPut(t, b, w, text(n, 1)); id != at {
				t.Fatalf("Put: %d; want %d", id, at)
			}
			checkDrop(t, b, w, at)
			for i := range at {
				b.m.Drop(i)
				w.hold(false, i)
			}
			checkPut(t, b, w, imitation(n, at))
			checkKept(t, b, 0, w.kept[0])
			checkTakenAgain(t, b, w, at)
			checkAll(t, b, w)
		}
	}
}
