package disk_test

import (
	"math"
	"testing"

	"bastion/api"
	"bastion/disk"
)

// outside are places at which a disk of n blocks has none.
func outside(n int) []int {
	return []int{-1, n, n + 1, -n, math.MinInt, math.MaxInt, 1 << 32, -1 << 32}
}

// wrongSizes are bytes that are no block: one has a block's bytes, and more, behind its end.
func wrongSizes() [][]byte {
	return [][]byte{nil, {}, []byte("a"), full('a')[:255], make([]byte, 257), make([]byte, 512)}
}

// P3.1: a new disk, of as few blocks as there may be, of as many, and of others.
func TestNew(t *testing.T) {
	for _, n := range []int{512, 513, 1000, 4096, 32767, 32768} {
		d := newDisk(t, n)
		checkAll(t, d, &told{size: n})
	}
}

// The table of errors: New.
func TestNewRefused(t *testing.T) {
	for _, n := range []int{511, 32769, 0, 1, -1, -512, 1 << 16, 1<<32 + 512, math.MinInt, math.MaxInt} {
		if d, e := disk.New(n); d != nil || e != api.ErrArg {
			t.Errorf("New(%d): %v, %d", n, d, int(e))
		}
	}
}

// P3.1, example 1 without its cut.
func TestReadAndWrite(t *testing.T) {
	d := newDisk(t, 512)
	checkRead(t, d, 1, full(0), api.OK)
	checkWrite(t, d, 1, full('a'), api.OK)
	checkRead(t, d, 1, full('a'), api.OK)
	checkStands(t, d, 512, 1, false)
	checkWrite(t, d, 1, full('b'), api.OK)
	checkRead(t, d, 1, full('b'), api.OK)
	checkWrite(t, d, 1, full('b'), api.OK)
	checkRead(t, d, 1, full('b'), api.OK)
	checkStands(t, d, 512, 3, false)
	checkRead(t, d, 0, full(0), api.OK)
	checkRead(t, d, 2, full(0), api.OK)
}

// P3.1: each block is its own, and each byte of it is kept.
func TestEachBlock(t *testing.T) {
	for _, n := range []int{512, 32768} {
		d, want := newDisk(t, n), &told{size: n, cutAt: noCut}
		for i := range n {
			b := make([]byte, api.BlockSize)
			for j := range b {
				b[j] = byte(i + i/256 + j*7)
			}
			checkWrite(t, d, i, b, want.write(i, b))
		}
		checkAll(t, d, want)
	}
}

// The table of errors: Read, in its order.
func TestReadRefused(t *testing.T) {
	d := newDisk(t, 513)
	for _, i := range outside(513) {
		checkRead(t, nil, i, nil, api.ErrNil)
		checkRead(t, d, i, nil, api.ErrArg)
	}
	checkRead(t, nil, 0, nil, api.ErrNil)
	checkRead(t, d, 512, full(0), api.OK)
	checkStands(t, d, 513, 0, false)
	killed(t, d)
	for _, i := range append(outside(513), 0, 1, 512) {
		checkRead(t, d, i, nil, api.ErrDead)
	}
}

// The table of errors: Write, in its order; what is refused changes nothing.
func TestWriteRefused(t *testing.T) {
	d, want := newDisk(t, 513), &told{size: 513, cutAt: noCut}
	refused := func(e api.Errno, d *disk.Disk) {
		t.Helper()
		for _, i := range outside(513) {
			checkWrite(t, d, i, full('x'), e)
			checkWrite(t, d, i, nil, e)
		}
		for _, b := range wrongSizes() {
			checkWrite(t, d, 0, b, e)
			checkWrite(t, d, 512, b, e)
		}
	}
	refused(api.ErrNil, nil)
	checkWrite(t, nil, 0, full('x'), api.ErrNil)

	checkWrite(t, d, 512, full('a'), want.write(512, full('a')))
	refused(api.ErrArg, d)
	checkAll(t, d, want)

	// Ahead of the cut, too: nothing is cut by what is no write.
	checkCut(t, d, 0, want.cut(0))
	refused(api.ErrArg, d)
	checkAll(t, d, want)
	checkWrite(t, d, 0, full('x'), api.ErrDead)
	checkStands(t, d, 513, 1, true)

	refused(api.ErrDead, d)
	checkWrite(t, d, 0, full('x'), api.ErrDead)
	checkStands(t, d, 513, 1, true)
	checkAll(t, reopened(t, d), &told{size: 513, done: want.done, before: 1})
}

// The table of errors: Cut, in its order; a cut that is refused takes no other one's place.
func TestCutRefused(t *testing.T) {
	below := []int{-1, -2, math.MinInt}
	for _, n := range append(below, 0, 1) {
		checkCut(t, nil, n, api.ErrNil)
	}
	d := newDisk(t, 512)
	for _, n := range below {
		checkCut(t, d, n, api.ErrArg)
	}
	checkWrite(t, d, 0, full('a'), api.OK)
	checkCut(t, d, 1, api.OK)
	for _, n := range below {
		checkCut(t, d, n, api.ErrArg)
	}
	checkWrite(t, d, 0, full('b'), api.OK)
	checkWrite(t, d, 0, full('c'), api.ErrDead)
	for _, n := range append(below, 0, 1) {
		checkCut(t, d, n, api.ErrDead)
	}
	checkRead(t, reopened(t, d), 0, full('b'), api.OK)
}

// The table of errors: Reopen, in its order; it changes nothing where it is refused.
func TestReopenRefused(t *testing.T) {
	checkNotReopened(t, nil, api.ErrNil)
	d := newDisk(t, 512)
	checkNotReopened(t, d, api.ErrState)
	checkWrite(t, d, 3, full('a'), api.OK)
	checkCut(t, d, 1, api.OK)
	checkNotReopened(t, d, api.ErrState)
	checkWrite(t, d, 4, full('b'), api.OK)
	checkNotReopened(t, d, api.ErrState)
	checkStands(t, d, 512, 2, false)
	checkWrite(t, d, 5, full('c'), api.ErrDead)
	reopened(t, d)
}

// P3.1 and P3.2: what a nil disk answers where it answers no error.
func TestNilDisk(t *testing.T) {
	checkStands(t, nil, 0, 0, false)
	var d *disk.Disk
	if c := d.Copy(); c != nil {
		t.Errorf("Copy of nil: %v", c)
	}
}

// P3.1, example 2.
func TestRefusedExamples(t *testing.T) {
	if d, e := disk.New(511); d != nil || e != api.ErrArg {
		t.Errorf("New(511): %v, %d", d, int(e))
	}
	d := newDisk(t, 512)
	checkWrite(t, d, 512, full('a'), api.ErrArg)
	checkWrite(t, d, 0, []byte("a"), api.ErrArg)
	checkNotReopened(t, d, api.ErrState)
	checkCut(t, d, 0, api.OK)
	checkWrite(t, d, 0, full('a'), api.ErrDead)
}

// R1: a disk that did not come out of New makes no call panic.
func TestOtherwiseMade(t *testing.T) {
	for _, d := range []*disk.Disk{{}, new(disk.Disk), new(disk.Disk).Copy()} {
		for _, i := range append(outside(0), 1, 512) {
			d.Read(i)
			d.Write(i, full('a'))
			d.Write(i, nil)
			d.Cut(i)
		}
		d.Len()
		d.Writes()
		d.Dead()
		d.Reopen()
		d.Copy().Write(0, full('a'))
	}
}

// P3.1 with R3: what is written is not changed, nor read behind its end, nor kept.
func TestWrittenIsNotKept(t *testing.T) {
	d := newDisk(t, 512)
	room := append(full('a'), full('b')...)
	checkWrite(t, d, 1, room[:api.BlockSize], api.OK)
	checkWrite(t, d, 2, room[api.BlockSize:], api.OK)
	if string(room) != string(append(full('a'), full('b')...)) {
		t.Errorf("what was handed in is changed: %q", room)
	}
	copy(room, full('x'))
	checkRead(t, d, 1, full('a'), api.OK)
	checkRead(t, d, 2, full('b'), api.OK)
	checkRead(t, d, 3, full(0), api.OK)
	checkWrite(t, d, 0, room[:api.BlockSize], api.OK)
	clear(room)
	checkRead(t, d, 0, full('x'), api.OK)
}

// P3.1 with R3: what is read is new memory, with all its room: neither a later write nor another answer shows in it, nor it in them.
func TestReadIsApart(t *testing.T) {
	d := newDisk(t, 512)
	for i := range 3 {
		checkWrite(t, d, i, full('a'+byte(i)), api.OK)
	}
	first, _ := d.Read(1)
	second, _ := d.Read(1)
	room := first[:cap(first)]
	for i := range room {
		room[i] = 'x'
	}
	if string(second) != string(full('b')) {
		t.Errorf("another answer shows what was written: %q", second)
	}
	for i := range 3 {
		checkRead(t, d, i, full('a'+byte(i)), api.OK)
	}
	checkRead(t, d, 3, full(0), api.OK)
	checkWrite(t, d, 1, full('y'), api.OK)
	if string(second) != string(full('b')) || string(first) != string(full('x')) {
		t.Errorf("answers show a later write: %q, %q", first, second)
	}
	none, _ := d.Read(4)
	copy(none, full('z'))
	checkRead(t, d, 4, full(0), api.OK)
}
