package disk_test

import (
	"bytes"
	"math"
	"slices"
	"testing"

	"bastion/api"
	"bastion/disk"
)

// told is a disk, told a second time: by what was done to it, from the first write on, over all lives.
type told struct {
	size   int
	done   []write // all writes that its blocks show
	before int     // how many of them were done in earlier lives
	cutAt  int     // how many of them there are when it is cut; below 0: no cut
	dead   bool
}

// write is a write that was done.
type write struct {
	block int
	bytes string
}

const noCut = -1

func newTold(n int) (*told, api.Errno) {
	if n < 512 || n > 32768 {
		return nil, api.ErrArg
	}
	return &told{size: n, cutAt: noCut}, api.OK
}

func (d *told) has(i int) bool { return i >= 0 && i <= d.size-1 }

func (d *told) writes() int { return len(d.done) - d.before }

// bytesOf are the bytes of a block, dead or not.
func (d *told) bytesOf(i int) string {
	for _, w := range slices.Backward(d.done) {
		if w.block == i {
			return w.bytes
		}
	}
	return string(make([]byte, 256))
}

func (d *told) read(i int) ([]byte, api.Errno) {
	switch {
	case d.dead:
		return nil, api.ErrDead
	case !d.has(i):
		return nil, api.ErrArg
	}
	return []byte(d.bytesOf(i)), api.OK
}

func (d *told) write(i int, b []byte) api.Errno {
	switch {
	case d.dead:
		return api.ErrDead
	case !d.has(i), len(b) != 256:
		return api.ErrArg
	case len(d.done) == d.cutAt:
		d.dead = true
		return api.ErrDead
	}
	d.done = append(d.done, write{i, string(b)})
	return api.OK
}

func (d *told) cut(n int) api.Errno {
	switch {
	case d.dead:
		return api.ErrDead
	case n < 0:
		return api.ErrArg
	}
	d.cutAt = math.MaxInt
	if n < math.MaxInt-len(d.done) {
		d.cutAt = len(d.done) + n
	}
	return api.OK
}

func (d *told) reopen() (*told, api.Errno) {
	if !d.dead {
		return nil, api.ErrState
	}
	return &told{size: d.size, done: slices.Clone(d.done), before: len(d.done), cutAt: noCut}, api.OK
}

func (d *told) copy() *told {
	other := *d
	other.done = slices.Clone(d.done)
	return &other
}

// full are BlockSize bytes c.
func full(c byte) []byte { return bytes.Repeat([]byte{c}, api.BlockSize) }

// newDisk is a new disk of n blocks.
func newDisk(t *testing.T, n int) *disk.Disk {
	t.Helper()
	d, e := disk.New(n)
	if d == nil || e != api.OK {
		t.Fatalf("New(%d): %v, %d", n, d, int(e))
	}
	return d
}

// reopened is what a dead disk comes to when it is reopened.
func reopened(t *testing.T, d *disk.Disk) *disk.Disk {
	t.Helper()
	again, e := d.Reopen()
	if again == nil || e != api.OK {
		t.Fatalf("Reopen: %v, %d", again, int(e))
	}
	return again
}

// killed is d, cut off at the next write.
func killed(t *testing.T, d *disk.Disk) *disk.Disk {
	t.Helper()
	checkCut(t, d, 0, api.OK)
	checkWrite(t, d, 0, full('k'), api.ErrDead)
	return d
}

func checkStands(t *testing.T, d *disk.Disk, size, writes int, dead bool) {
	t.Helper()
	if d.Len() != size || d.Writes() != writes || d.Dead() != dead {
		t.Errorf("Len %d, Writes %d, Dead %v; want %d, %d, %v", d.Len(), d.Writes(), d.Dead(), size, writes, dead)
	}
}

func checkRead(t *testing.T, d *disk.Disk, i int, want []byte, wantErr api.Errno) {
	t.Helper()
	if got, e := d.Read(i); e != wantErr || !bytes.Equal(got, want) {
		t.Errorf("Read(%d): %.8q, %d; want %.8q, %d", i, got, int(e), want, int(wantErr))
	}
}

func checkWrite(t *testing.T, d *disk.Disk, i int, b []byte, want api.Errno) {
	t.Helper()
	if e := d.Write(i, b); e != want {
		t.Errorf("Write(%d) of %d bytes: %d; want %d", i, len(b), int(e), int(want))
	}
}

func checkCut(t *testing.T, d *disk.Disk, n int, want api.Errno) {
	t.Helper()
	if e := d.Cut(n); e != want {
		t.Errorf("Cut(%d): %d; want %d", n, int(e), int(want))
	}
}

// checkNotReopened tells where Reopen is not refused as it must be.
func checkNotReopened(t *testing.T, d *disk.Disk, want api.Errno) {
	t.Helper()
	if again, e := d.Reopen(); again != nil || e != want {
		t.Errorf("Reopen: %v, %d; want %d", again, int(e), int(want))
	}
}

// checkAll tells where d, which is not dead, is not as it is told.
func checkAll(t *testing.T, d *disk.Disk, want *told) {
	t.Helper()
	checkStands(t, d, want.size, want.writes(), false)
	blocks := make(map[int]string)
	for _, w := range want.done {
		blocks[w.block] = w.bytes
	}
	zeros := string(make([]byte, api.BlockSize))
	for i := range want.size {
		bytes, written := blocks[i]
		if !written {
			bytes = zeros
		}
		checkRead(t, d, i, []byte(bytes), api.OK)
	}
}
