package journal_test

import (
	"bytes"
	"maps"
	"slices"
	"testing"

	"bastion/api"
	"bastion/disk"
	"bastion/journal"
)

// blocks are the plain blocks of a disk, told a second time: those that are not all 0, by their numbers.
type blocks map[int]string

// with are the blocks behind a group.
func (b blocks) with(l ...journal.Write) blocks {
	next := maps.Clone(b)
	if next == nil {
		next = blocks{}
	}
	for _, w := range l {
		next[w.Block] = string(w.Data)
		if next[w.Block] == string(full(0)) {
			delete(next, w.Block)
		}
	}
	return next
}

// plain tells whether a disk of size blocks has a plain block i.
func plain(size, i int) bool {
	return i >= 0 && i < size && !(i >= 1 && i <= 121)
}

// errorOfDo is what Do must answer of a group, on a disk of size blocks that is not cut.
func errorOfDo(size int, l []journal.Write) api.Errno {
	if len(l) >= 121 {
		return api.ErrFull
	}
	var places []int
	for _, w := range l {
		if len(w.Data) != 256 || !plain(size, w.Block) {
			return api.ErrArg
		}
		places = append(places, w.Block)
	}
	slices.Sort(places)
	if len(slices.Compact(places)) != len(l) {
		return api.ErrArg
	}
	return api.OK
}

// full are BlockSize bytes c.
func full(c byte) []byte { return bytes.Repeat([]byte{c}, api.BlockSize) }

// group writes to each of the places a block of its own; what it is hangs on the first of them.
func group(first byte, places ...int) []journal.Write {
	var l []journal.Write
	for i, place := range places {
		b := full(first + byte(i))
		b[0], b[255] = byte(place), byte(place>>8)
		l = append(l, journal.Write{Block: place, Data: b})
	}
	return l
}

// from are n places, the first one being at.
func from(at, n int) []int {
	var places []int
	for i := range n {
		places = append(places, at+i)
	}
	return places
}

// newDisk is a new disk of n blocks.
func newDisk(t *testing.T, n int) *disk.Disk {
	t.Helper()
	d, e := disk.New(n)
	if e != api.OK {
		t.Fatalf("New(%d): %d", n, int(e))
	}
	return d
}

// opened is the journal of d, which is not cut while it is opened.
func opened(t *testing.T, d *disk.Disk) *journal.Journal {
	t.Helper()
	j, e := journal.Open(d)
	if j == nil || e != api.OK {
		t.Fatalf("Open: %v, %d", j, int(e))
	}
	return j
}

// reopened is what a dead disk comes to.
func reopened(t *testing.T, d *disk.Disk) *disk.Disk {
	t.Helper()
	again, e := d.Reopen()
	if e != api.OK {
		t.Fatalf("Reopen: %d", int(e))
	}
	return again
}

// killed is d, cut off ahead of any further write.
func killed(t *testing.T, d *disk.Disk) *disk.Disk {
	t.Helper()
	d.Cut(0)
	if e := d.Write(0, full('k')); e != api.ErrDead {
		t.Fatalf("a write behind Cut(0): %d", int(e))
	}
	return d
}

// standing are the plain blocks of a disk of size blocks, as they are read.
func standing(size int, read func(i int) ([]byte, api.Errno)) blocks {
	all := blocks{}
	zeros := full(0)
	for i := range size {
		if !plain(size, i) {
			continue
		}
		if b, e := read(i); e != api.OK || !bytes.Equal(b, zeros) {
			all[i] = string(b)
		}
	}
	return all
}

// checkAll tells where what j reads is not what is told.
func checkAll(t *testing.T, j *journal.Journal, want blocks) {
	t.Helper()
	zeros := string(full(0))
	for i := range j.Disk().Len() {
		if !plain(j.Disk().Len(), i) {
			continue
		}
		b, told := want[i]
		if !told {
			b = zeros
		}
		if got, e := j.Read(i); e != api.OK || string(got) != b {
			t.Errorf("Read(%d): %.8q, %d; want %.8q", i, got, int(e), b)
		}
	}
}

// checkEither is the one of two tellings that j's blocks are just as; if they are as neither, it tells so.
func checkEither(t *testing.T, j *journal.Journal, before, behind blocks) blocks {
	t.Helper()
	got := standing(j.Disk().Len(), j.Read)
	if maps.Equal(got, behind) {
		return behind
	}
	if !maps.Equal(got, before) {
		t.Errorf("neither before nor behind: %d blocks are written", len(got))
	}
	return before
}

func checkRead(t *testing.T, j *journal.Journal, i int, want []byte, wantErr api.Errno) {
	t.Helper()
	if got, e := j.Read(i); e != wantErr || !bytes.Equal(got, want) {
		t.Errorf("Read(%d): %.8q, %d; want %.8q, %d", i, got, int(e), want, int(wantErr))
	}
}

func checkRaw(t *testing.T, j *journal.Journal, i int, b []byte, want api.Errno) {
	t.Helper()
	if e := j.Raw(i, b); e != want {
		t.Errorf("Raw(%d) of %d bytes: %d; want %d", i, len(b), int(e), int(want))
	}
}

func checkDo(t *testing.T, j *journal.Journal, l []journal.Write, want api.Errno) {
	t.Helper()
	if e := j.Do(l); e != want {
		t.Errorf("Do of %d writes: %d; want %d", len(l), int(e), int(want))
	}
}

// checkNotOpened tells where Open is not refused as it must be.
func checkNotOpened(t *testing.T, d *disk.Disk, want api.Errno) {
	t.Helper()
	if j, e := journal.Open(d); j != nil || e != want {
		t.Errorf("Open: %v, %d; want %d", j, int(e), int(want))
	}
}
