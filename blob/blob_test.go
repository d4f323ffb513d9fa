package blob_test

import (
	"fmt"
	"maps"
	"math"
	"slices"
	"strings"
	"testing"

	"bastion/api"
	"bastion/blob"
	"bastion/disk"
	"bastion/freemap"
	"bastion/journal"
)

// The chapter's examples.
func TestExamples(t *testing.T) {
	for _, c := range []struct{ n, want int }{{0, 2}, {256, 2}, {257, 3}, {30720, 121}, {30721, 123}} {
		if got := blob.Need(c.n); got != c.want {
			t.Errorf("Need(%d): %d; want %d", c.n, got, c.want)
		}
	}
	b, w := newBench(t, 512, 300, 10), newTold(10)
	checkPut(t, b, w, text(300, 1))
	checkKept(t, b, 0, value{text(300, 1), []int{0, 1, 2}})
	if id := checkPut(t, b, w, "x"); id != 3 {
		t.Errorf("Put of 1 byte: %d", id)
	}
	checkDrop(t, b, w, 0)
	checkPut(t, b, w, text(700, 2))
	checkKept(t, b, 0, value{text(700, 2), []int{0, 1, 2, 5}})
	if id, e := b.Put(text(2000, 3)); id != 0 || e != api.ErrFull {
		t.Errorf("Put of 2000 bytes: %d, %d", id, int(e))
	}
	checkRefused(t, b.Desk, 7, api.ErrNone)
	checkAll(t, b, w)
}

// P8.1: Need.
func TestNeed(t *testing.T) {
	sizes := []int{131072, 1 << 23, 1<<23 + 1, 1<<31 - 1}
	for n := range 70000 {
		sizes = append(sizes, n)
	}
	for _, n := range sizes {
		if got := blob.Need(n); got != needed(n) {
			t.Fatalf("Need(%d): %d; want %d", n, got, needed(n))
		}
	}
	for _, n := range []int{-1, -255, -256, -257, -1 << 31, -1 << 32, math.MinInt} {
		if got := blob.Need(n); got != 0 {
			t.Errorf("Need(%d): %d", n, got)
		}
	}
	// R1: it ends, of whatever number.
	blob.Need(math.MaxInt)
}

// P8.1: a desk at each edge of the disk; nothing is written by Open.
func TestOpen(t *testing.T) {
	for _, c := range []struct{ size, base, n int }{{512, 122, 390}, {512, 122, 0}, {512, 122, 1}, {512, 511, 1}, {512, 200, 312}, {32768, 122, 32646}, {32768, 32767, 1}, {513, 123, 390}} {
		b := newBench(t, c.size, c.base, c.n)
		if b.d.Writes() != 0 || b.m.Free() != c.n {
			t.Errorf("%v: %d writes, %d are free", c, b.d.Writes(), b.m.Free())
		}
		w := newTold(c.n)
		if c.n < 1000 {
			checkAll(t, b, w)
			checkPut(t, b, w, "x")
		}
	}
}

// The table of errors: Open, in its order.
func TestOpenRefused(t *testing.T) {
	b := newBench(t, 512, 122, 390)
	for _, c := range []struct {
		j    *journal.Journal
		base int
		m    *freemap.Map
		want api.Errno
	}{
		{nil, 200, nil, api.ErrNil}, {nil, 200, newMap(t, 10), api.ErrNil}, {b.j, 200, nil, api.ErrNil},
		{nil, 0, newMap(t, 10), api.ErrNil}, {b.j, 0, nil, api.ErrNil}, {nil, 1 << 40, nil, api.ErrNil},
		{b.j, 121, newMap(t, 10), api.ErrArg}, {b.j, 121, newMap(t, 0), api.ErrArg}, {b.j, 0, newMap(t, 1), api.ErrArg}, {b.j, -1, newMap(t, 1), api.ErrArg},
		{b.j, 122, newMap(t, 391), api.ErrArg}, {b.j, 123, newMap(t, 390), api.ErrArg}, {b.j, 512, newMap(t, 1), api.ErrArg}, {b.j, 511, newMap(t, 2), api.ErrArg},
		{b.j, 200, newMap(t, 32768), api.ErrArg}, {b.j, 503, newMap(t, 10), api.ErrArg},
		{b.j, math.MinInt, newMap(t, 10), api.ErrArg}, {b.j, math.MaxInt, newMap(t, 10), api.ErrArg}, {b.j, math.MaxInt - 5, newMap(t, 6), api.ErrArg},
		{b.j, 1<<32 + 200, newMap(t, 10), api.ErrArg}, {b.j, -1<<32 + 200, newMap(t, 10), api.ErrArg},
	} {
		if d, e := blob.Open(c.j, c.base, c.m); d != nil || e != c.want {
			t.Errorf("Open at %d, of %d blocks: %v, %d; want %d", c.base, c.m.Len(), d, int(e), int(c.want))
		}
	}
	if b.d.Writes() != 0 {
		t.Errorf("%d writes of what was refused", b.d.Writes())
	}
}

// sizes are numbers of bytes beside those where a value needs a block more, or two.
func sizes() []int {
	all := []int{0, 1, 2, 100, 1000, 5000, 131072}
	for _, full := range []int{1, 2, 3, 10, 119, 120, 121, 239, 240, 241, 360} {
		for _, off := range []int{-17, -16, -15, -14, -12, -8, -4, -2, -1, 0, 1} {
			all = append(all, 256*full+off)
		}
	}
	return all
}

// P8.2: values of all sizes, by themselves and all at one desk.
func TestPutOfEachSize(t *testing.T) {
	for _, n := range sizes() {
		b, w := newBench(t, 1300, 200, needed(n)+3), newTold(needed(n)+3)
		checkPut(t, b, w, text(n, n))
		checkAll(t, b, w)
		checkDrop(t, b, w, 0)
		checkAll(t, b, w)
	}
	b, w := newBench(t, 20000, 122, 19878), newTold(19878)
	for no, n := range sizes() {
		checkPut(t, b, w, text(n, no))
	}
	for id, v := range w.kept {
		checkKept(t, b, id, v)
	}
	checkMap(t, b.m, w)
	checkApart(t, b, ids(w))
}

// P8.2: values of a few bytes told over and over, of 00s among them, and the same value more than once.
func TestPutOfPlainBytes(t *testing.T) {
	b, w := newBench(t, 1200, 150, 1000), newTold(1000)
	for _, n := range []int{0, 1, 240, 256, 257, 700, 31000} {
		for _, part := range []string{"\x00", "\x00", "\xff", "a", "\x01\x00", "\x00\x80"} {
			checkPut(t, b, w, strings.Repeat(part, n/len(part)))
		}
	}
	checkAll(t, b, w)
	checkApart(t, b, ids(w))
	again, w := checkRestarted(t, b, w)
	checkAll(t, again, w)
}

// P8.1, P8.2: the greatest value there is: on all blocks of the greatest disk.
func TestGreatest(t *testing.T) {
	b, w := newBench(t, 32768, 122, 32646), newTold(32646)
	most := 256 * (32646 - 270)
	if needed(most) != 32646 || needed(most+1) != 32647 {
		t.Fatalf("%d bytes are not the most", most)
	}
	checkPut(t, b, w, strings.Repeat("x", most+1))
	checkMap(t, b.m, w)
	checkPut(t, b, w, text(most, 1))
	checkKept(t, b, 0, w.kept[0])
	checkMap(t, b.m, w)
	checkPut(t, b, w, "")
	again := b.restarted(t)
	if e := again.Claim(0); e != api.OK || again.m.Free() != 0 {
		t.Errorf("Claim(0): %d, %d are free", int(e), again.m.Free())
	}
	checkKept(t, again, 0, w.kept[0])
	checkDrop(t, b, w, 0)
	checkMap(t, b.m, w)
}

// P8.1, P8.2: the least free blocks are taken, also where others are between; blocks that are taken at the map itself are left alone, till they are free there again.
func TestPutBetween(t *testing.T) {
	for _, held := range [][]int{{0}, {1}, {0, 1, 2}, {1, 3, 5, 7, 9}, {0, 2, 4, 6, 8}, {5, 6, 7, 8, 9}, {3, 17, 18, 39}, {38, 39}} {
		b, w := newBench(t, 512, 200, 40), newTold(40)
		for _, i := range held {
			b.m.Claim(i)
		}
		w.hold(true, held...)
		for _, n := range []int{300, 0, 1000, 256, 2500, 2000, 700, 1} {
			checkPut(t, b, w, text(n, n))
		}
		checkAll(t, b, w)
		for _, i := range held {
			checkRefused(t, b.Desk, i, api.ErrForm)
		}
		for _, i := range held {
			b.m.Drop(i)
		}
		w.hold(false, held...)
		checkPut(t, b, w, "")
		checkAll(t, b, w)
	}
}

// P8.2: a desk uses the map that it is handed, itself: two desks may share one.
func TestDesksOfOneMap(t *testing.T) {
	b, w := newBench(t, 512, 200, 20), newTold(20)
	other, _ := blob.Open(b.j, 200, b.m)
	checkPut(t, b, w, text(300, 1))
	want, _ := w.put("y")
	if id, e := other.Put("y"); id != want || e != api.OK {
		t.Errorf("Put at the other desk: %d, %d; want %d", id, int(e), want)
	}
	checkAll(t, b, w)
	checkAll(t, &bench{other, b.d, b.j, b.m, 200}, w)
	if e := other.Drop(0); e != api.OK {
		t.Errorf("Drop(0) at the other desk: %d", int(e))
	}
	w.drop(0)
	checkAll(t, b, w)
}

// R2, P8.5: desks on other blocks of a disk do not see one another.
func TestDesksApart(t *testing.T) {
	b, w := newBench(t, 512, 150, 20), newTold(20)
	other, v := benchOn(t, b.d, 170, newMap(t, 20)), newTold(20)
	for _, n := range []int{300, 0, 700} {
		checkPut(t, b, w, text(n, n))
		checkPut(t, other, v, text(n, n+1))
	}
	checkDrop(t, b, w, 0)
	checkAll(t, b, w)
	checkAll(t, other, v)
}

// The table of errors: Put is refused where it needs more blocks than are free, and just there; nothing is done then, ahead of a cut neither.
func TestPutFull(t *testing.T) {
	for _, n := range []int{0, 1, 256, 257, 1000, 30720, 30721} {
		for free := range needed(n) + 2 {
			if free > 5 && free < needed(n)-2 {
				continue
			}
			b, w := newBench(t, 512, 200, free+4), newTold(free+4)
			for _, i := range []int{0, 2, 3, free + 3} {
				b.m.Claim(i)
				w.hold(true, i)
			}
			if free < needed(n) {
				b.d.Cut(0)
			}
			checkPut(t, b, w, text(n, n))
			checkAll(t, b, w)
			if b.d.Dead() {
				t.Errorf("Put of %d bytes to %d free blocks: the disk is dead", n, free)
			}
		}
	}
}

// The table of errors: Put of far more than there is room for.
func TestPutFarTooMuch(t *testing.T) {
	b, w := newBench(t, 512, 200, 20), newTold(20)
	checkPut(t, b, w, text(300, 1))
	checkPut(t, b, w, strings.Repeat("x", 1<<27))
	checkAll(t, b, w)
}

// P8.2: what is dropped is free, all of it, and is put to again.
func TestDrop(t *testing.T) {
	b, w := newBench(t, 1024, 200, 400), newTold(400)
	var put []int
	for no, n := range []int{300, 0, 31000, 256, 700, 5000} {
		put = append(put, checkPut(t, b, w, text(n, no)))
	}
	for _, no := range []int{2, 0, 5} {
		checkDrop(t, b, w, put[no])
		checkAll(t, b, w)
		checkApart(t, b, ids(w))
	}
	checkPut(t, b, w, text(40000, 9))
	checkAll(t, b, w)
	for id := range maps.Clone(w.kept) {
		checkDrop(t, b, w, id)
	}
	checkAll(t, b, w)
	if b.m.Free() != 400 {
		t.Errorf("%d are free, of 400", b.m.Free())
	}
}

// P8.3: behind a start all values are claimed, in whatever order; also those that were dropped in mind alone, and then once more.
func TestClaim(t *testing.T) {
	b, w := newBench(t, 1024, 200, 400), newTold(400)
	for no, n := range []int{300, 0, 31000, 256, 700, 5000} {
		checkPut(t, b, w, text(n, no))
	}
	checkDrop(t, b, w, 3)
	checkPut(t, b, w, text(900, 7))
	checkDrop(t, b, w, 0)
	checkDrop(t, b, w, w.list(true)[0])
	for _, rising := range []bool{true, false} {
		again, v := b.restarted(t), w.restart()
		rest := slices.Sorted(maps.Keys(v.gone))
		if !rising {
			slices.Reverse(rest)
		}
		for _, id := range rest {
			checkClaim(t, again, v, id)
			checkAll(t, again, v)
		}
		checkApart(t, again, rest)
		checkPut(t, again, v, text(1000, 8))
		checkDrop(t, again, v, rest[0])
		checkClaim(t, again, v, rest[0])
		checkAll(t, again, v)
	}
}

// P8.3: at the same desk, too, what was dropped may be claimed, as long as it was not taken again.
func TestClaimOfDropped(t *testing.T) {
	b, w := newBench(t, 512, 200, 60), newTold(60)
	checkPut(t, b, w, text(300, 1))
	checkPut(t, b, w, text(3000, 2))
	checkPut(t, b, w, "x")
	for range 3 {
		checkDrop(t, b, w, 3)
		checkDrop(t, b, w, 0)
		checkClaim(t, b, w, 3)
		checkClaim(t, b, w, 0)
		checkAll(t, b, w)
	}
}

// The table of errors: Claim of a value of which any one block is taken; nothing is taken then.
func TestClaimTwice(t *testing.T) {
	b, w := newBench(t, 512, 200, 300), newTold(300)
	checkPut(t, b, w, "x")
	id := checkPut(t, b, w, text(31000, 1))
	for _, i := range w.kept[id].blocks {
		again, v := b.restarted(t), newTold(300)
		again.m.Claim(i)
		v.hold(true, i)
		checkWritten(t, again, nil, func() { checkClaimRefused(t, again.Desk, id, api.ErrTwice) })
		checkMap(t, again.m, v)
	}
	checkClaimRefused(t, b.Desk, id, api.ErrTwice)
	checkClaimRefused(t, b.Desk, 0, api.ErrTwice)
	checkAll(t, b, w)
}

// The table of errors: all calls of a nil desk, and of one whose disk is dead, whatever they are handed.
func TestRefusedInOrder(t *testing.T) {
	b, w := newBench(t, 512, 200, 20), newTold(20)
	checkPut(t, b, w, text(300, 1))
	checkPut(t, b, w, "x")
	checkDrop(t, b, w, 3)
	b.m.Take()
	w.hold(true, 3)
	b.kill(t)
	for _, c := range []struct {
		d    *blob.Desk
		want api.Errno
	}{{nil, api.ErrNil}, {b.Desk, api.ErrDead}} {
		for _, id := range append(outside(20), 0, 1, 3, 4, 10, 19) {
			checkRefused(t, c.d, id, c.want)
			checkClaimRefused(t, c.d, id, c.want)
		}
		for _, n := range []int{0, 1, 300, 10000, 1 << 20} {
			if id, e := c.d.Put(text(n, 2)); id != 0 || e != c.want {
				t.Errorf("Put of %d bytes: %d, %d; want %d", n, id, int(e), int(c.want))
			}
		}
	}
	checkMap(t, b.m, w)
}

// R1: a desk that did not come out of Open, and one on a journal or a map that was made otherwise, make no call panic.
func TestOtherwiseMade(t *testing.T) {
	b := newBench(t, 512, 200, 20)
	odd := []*blob.Desk{{}, new(blob.Desk)}
	for _, base := range []int{-1, 0, 122, 200, 512, 1 << 40} {
		for _, j := range []*journal.Journal{b.j, {}} {
			for _, m := range []*freemap.Map{{}, newMap(t, 5)} {
				d, _ := blob.Open(j, base, m)
				odd = append(odd, d)
			}
		}
	}
	for _, d := range odd {
		for _, id := range append(outside(20), 0, 1, 7) {
			d.Put("x")
			d.Get(id)
			d.Blocks(id)
			d.Drop(id)
			d.Claim(id)
		}
	}
}

// P8.2 with R3: the list of blocks is new memory, with all its room.
func TestBlocksAreApart(t *testing.T) {
	b, w := newBench(t, 512, 200, 50), newTold(50)
	checkPut(t, b, w, text(3000, 1))
	first, _ := b.Blocks(0)
	second, _ := b.Blocks(0)
	room := first[:cap(first)]
	for i := range room {
		room[i] = 40
	}
	if !slices.Equal(second, w.kept[0].blocks) {
		t.Errorf("another list shows what was written: %v", second)
	}
	checkAll(t, b, w)
	checkDrop(t, b, w, 0)
	if len(second) != 13 {
		t.Errorf("a list shows what was done later: %v", second)
	}
}

// P8.2: a value is there, wherever it is asked for: at another desk on the same disk, and behind Reopen.
func TestPutIsOnTheDisk(t *testing.T) {
	for _, size := range []int{512, 700} {
		t.Run(fmt.Sprint(size), func(t *testing.T) {
			d, _ := disk.New(size)
			b, w := benchOn(t, d, size-100, newMap(t, 100)), newTold(100)
			for _, n := range []int{300, 5000, 0} {
				checkPut(t, b, w, text(n, n))
			}
			b.kill(t)
			again := benchOn(t, b.restarted(t).d, size-100, b.m)
			checkAll(t, again, w)
		})
	}
}
