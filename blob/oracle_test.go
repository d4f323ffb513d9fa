package blob_test

import (
	"bytes"
	"maps"
	"math"
	"math/rand/v2"
	"slices"
	"testing"

	"bastion/api"
	"bastion/blob"
	"bastion/disk"
	"bastion/freemap"
	"bastion/journal"
)

// value is a value, told a second time: its bytes, and its blocks.
type value struct {
	data   string
	blocks []int
}

// told is a desk, told a second time.
type told struct {
	taken []bool
	kept  map[int]value // by their ids
	gone  map[int]value // dropped ones, of whose blocks none was taken again
}

func newTold(size int) *told {
	return &told{make([]bool, size), map[int]value{}, map[int]value{}}
}

func (w *told) copy() *told {
	return &told{slices.Clone(w.taken), maps.Clone(w.kept), maps.Clone(w.gone)}
}

// needed is how many blocks a value of n bytes needs, counted one by one.
func needed(n int) int {
	blocks, full := 0, 0
	for rest := n; rest > 0 || blocks == 0; rest -= 256 {
		blocks++
	}
	for rest := blocks; rest > 0; rest -= 120 {
		full++
	}
	return blocks + full
}

// list are the blocks that are taken, or those that are free, rising.
func (w *told) list(taken bool) []int {
	var l []int
	for i, is := range w.taken {
		if is == taken {
			l = append(l, i)
		}
	}
	return l
}

// hold takes blocks, or frees them; values that lay there and were dropped stand no more, once they are taken.
func (w *told) hold(taken bool, blocks ...int) {
	for _, i := range blocks {
		w.taken[i] = taken
		maps.DeleteFunc(w.gone, func(_ int, v value) bool { return taken && slices.Contains(v.blocks, i) })
	}
}

// put puts a value: its id, or ErrFull.
func (w *told) put(data string) (int, api.Errno) {
	free := w.list(false)
	n := needed(len(data))
	if n > len(free) {
		return 0, api.ErrFull
	}
	w.hold(true, free[:n]...)
	w.kept[free[0]] = value{data, free[:n]}
	return free[0], api.OK
}

// drop drops a value that is kept.
func (w *told) drop(id int) {
	v := w.kept[id]
	delete(w.kept, id)
	w.hold(false, v.blocks...)
	w.gone[id] = v
}

// claim claims a value that was dropped, and stands.
func (w *told) claim(id int) {
	v := w.gone[id]
	w.hold(true, v.blocks...)
	w.kept[id] = v
}

// restart is what is told behind a start: nothing is taken, and all that stood stands.
func (w *told) restart() *told {
	next := newTold(len(w.taken))
	maps.Copy(next.gone, w.gone)
	maps.Copy(next.gone, w.kept)
	return next
}

// ids are the ids of all values that are kept, rising.
func ids(w *told) []int { return slices.Sorted(maps.Keys(w.kept)) }

// bench is a desk, with all that it was made of.
type bench struct {
	*blob.Desk
	d    *disk.Disk
	j    *journal.Journal
	m    *freemap.Map
	base int
}

// newBench is a desk on a new disk of size blocks, and on a new map of n blocks, from base on.
func newBench(t *testing.T, size, base, n int) *bench {
	t.Helper()
	d, e := disk.New(size)
	if e != api.OK {
		t.Fatalf("disk.New(%d): %d", size, int(e))
	}
	return benchOn(t, d, base, newMap(t, n))
}

func newMap(t *testing.T, n int) *freemap.Map {
	t.Helper()
	m, e := freemap.New(n)
	if e != api.OK {
		t.Fatalf("freemap.New(%d): %d", n, int(e))
	}
	return m
}

// benchOn is a desk on a disk and a map that were there already.
func benchOn(t *testing.T, d *disk.Disk, base int, m *freemap.Map) *bench {
	t.Helper()
	j, e := journal.Open(d)
	if e != api.OK {
		t.Fatalf("journal.Open: %d", int(e))
	}
	desk, e := blob.Open(j, base, m)
	if desk == nil || e != api.OK {
		t.Fatalf("Open at %d, of %d blocks: %v, %d", base, m.Len(), desk, int(e))
	}
	return &bench{desk, d, j, m, base}
}

// restarted is a desk over the same blocks, with a new map; the disk is reopened, if it is dead.
func (b *bench) restarted(t *testing.T) *bench {
	t.Helper()
	d := b.d
	if d.Dead() {
		again, e := d.Reopen()
		if e != api.OK {
			t.Fatalf("Reopen: %d", int(e))
		}
		d = again
	}
	return benchOn(t, d, b.base, newMap(t, b.m.Len()))
}

// copied is a desk that stands as this one, on a disk and a map of its own.
func (b *bench) copied(t *testing.T) *bench {
	t.Helper()
	return benchOn(t, b.d.Copy(), b.base, b.m.Copy())
}

// kill cuts the desk's disk off ahead of any further write.
func (b *bench) kill(t *testing.T) {
	t.Helper()
	b.d.Cut(0)
	if e := b.d.Write(0, make([]byte, 256)); e != api.ErrDead {
		t.Fatalf("a write behind Cut(0): %d", int(e))
	}
}

// image are all blocks of a disk, dead or not.
func image(t *testing.T, d *disk.Disk) [][]byte {
	t.Helper()
	if d.Dead() {
		d, _ = d.Reopen()
	}
	all := make([][]byte, d.Len())
	for i := range all {
		b, e := d.Read(i)
		if e != api.OK {
			t.Fatalf("the block %d is not read: %d", i, int(e))
		}
		all[i] = b
	}
	return all
}

// checkWritten tells where doing writes anything but the places that may be written (blocks of the map), or does more than one write for each.
func checkWritten(t *testing.T, b *bench, may []int, do func()) {
	t.Helper()
	before, writes := image(t, b.d), b.d.Writes()
	do()
	if n := b.d.Writes() - writes; n > len(may) {
		t.Errorf("%d writes, where %d may be", n, len(may))
	}
	for i, was := range image(t, b.d) {
		if !bytes.Equal(was, before[i]) && !slices.Contains(may, i-b.base) {
			t.Errorf("the block %d of the disk has changed, which is no free one", i)
		}
	}
}

// text is n bytes that another seed does not have; no two blocks of them are the same.
func text(n, seed int) string {
	from := rand.New(rand.NewPCG(8, uint64(seed)))
	b := make([]byte, n)
	for i := range b {
		b[i] = byte(from.Uint32())
	}
	return string(b)
}

// outside are places at which a map of n blocks has none.
func outside(n int) []int {
	return []int{-1, -2, -122, -n - 1, n, n + 1, n + 122, 32768, 1 << 16, 1 << 32, -1 << 32, math.MinInt, math.MaxInt}
}

// checkPut puts data at a desk, and tells where that is not as it must be.
func checkPut(t *testing.T, b *bench, w *told, data string) int {
	t.Helper()
	may := w.list(false)
	if n := needed(len(data)); n <= len(may) {
		may = may[:n]
	} else {
		may = nil
	}
	want, wantErr := w.put(data)
	checkWritten(t, b, may, func() {
		if id, e := b.Put(data); id != want || e != wantErr {
			t.Errorf("Put of %d bytes: %d, %d; want %d, %d", len(data), id, int(e), want, int(wantErr))
		}
	})
	return want
}

// checkDrop drops a value that is kept.
func checkDrop(t *testing.T, b *bench, w *told, id int) {
	t.Helper()
	w.drop(id)
	checkWritten(t, b, nil, func() {
		if e := b.Drop(id); e != api.OK {
			t.Errorf("Drop(%d): %d", id, int(e))
		}
	})
}

// checkClaim claims a value that was dropped, and stands.
func checkClaim(t *testing.T, b *bench, w *told, id int) {
	t.Helper()
	w.claim(id)
	checkWritten(t, b, nil, func() {
		if e := b.Claim(id); e != api.OK {
			t.Errorf("Claim(%d): %d", id, int(e))
		}
	})
}

// few are the first ones of a list, for a telling of it.
func few(l []int) []int { return l[:min(len(l), 20)] }

// checkKept tells where a value is not as it is told.
func checkKept(t *testing.T, b *bench, id int, want value) {
	t.Helper()
	if s, e := b.Get(id); s != want.data || e != api.OK {
		t.Errorf("Get(%d): %.20q, %d bytes, %d; want %.20q, %d bytes", id, s, len(s), int(e), want.data, len(want.data))
	}
	if l, e := b.Blocks(id); !slices.Equal(l, want.blocks) || e != api.OK {
		t.Errorf("Blocks(%d): %v, %d; want %v", id, few(l), int(e), few(want.blocks))
	}
}

// checkRefused tells where Get, Blocks and Drop of an id are not refused with want.
func checkRefused(t *testing.T, b *blob.Desk, id int, want api.Errno) {
	t.Helper()
	if s, e := b.Get(id); s != "" || e != want {
		t.Errorf("Get(%d): %d bytes, %d; want %d", id, len(s), int(e), int(want))
	}
	if l, e := b.Blocks(id); len(l) > 0 || e != want {
		t.Errorf("Blocks(%d): %v, %d; want %d", id, l, int(e), int(want))
	}
	if e := b.Drop(id); e != want {
		t.Errorf("Drop(%d): %d; want %d", id, int(e), int(want))
	}
}

func checkClaimRefused(t *testing.T, b *blob.Desk, id int, want api.Errno) {
	t.Helper()
	if e := b.Claim(id); e != want {
		t.Errorf("Claim(%d): %d; want %d", id, int(e), int(want))
	}
}

// checkMap tells where a map is not as it is told.
func checkMap(t *testing.T, m *freemap.Map, w *told) {
	t.Helper()
	if l := m.List(); !slices.Equal(l, w.list(true)) {
		t.Errorf("%d are taken: %v; want %d: %v", len(l), few(l), len(w.list(true)), few(w.list(true)))
	}
}

// checkAll tells where a desk is not as it is told, or writes when it is asked.
func checkAll(t *testing.T, b *bench, w *told) {
	t.Helper()
	checkWritten(t, b, nil, func() {
		for id, v := range w.kept {
			checkKept(t, b, id, v)
		}
		for _, id := range append(w.list(false), outside(len(w.taken))...) {
			checkRefused(t, b.Desk, id, api.ErrNone)
		}
		for _, id := range outside(len(w.taken)) {
			checkClaimRefused(t, b.Desk, id, api.ErrNone)
		}
		checkMap(t, b.m, w)
	})
}

// checkApart tells where, of blocks that are taken by values alone, one stands with two of them, or with none and yet is not free.
func checkApart(t *testing.T, b *bench, ids []int) {
	t.Helper()
	times := make([]int, b.m.Len())
	for i := range times {
		if !b.m.Taken(i) {
			times[i]++
		}
	}
	for _, id := range ids {
		l, e := b.Blocks(id)
		if e != api.OK {
			t.Errorf("Blocks(%d): %d", id, int(e))
		}
		for _, i := range l {
			times[i]++
		}
	}
	for i, n := range times {
		if n != 1 {
			t.Errorf("the block %d stands %d times among values and free ones", i, n)
		}
	}
}

// checkRestarted starts a desk anew, claims all that stands, and tells where it is not as it was.
func checkRestarted(t *testing.T, b *bench, w *told) (*bench, *told) {
	t.Helper()
	again, v := b.restarted(t), w.restart()
	for id := range maps.Clone(v.gone) {
		v.claim(id)
		if e := again.Claim(id); e != api.OK {
			t.Errorf("Claim(%d): %d", id, int(e))
		}
	}
	for id, kept := range v.kept {
		checkKept(t, again, id, kept)
	}
	checkMap(t, again.m, v)
	return again, v
}
