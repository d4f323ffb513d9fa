package store_test

import (
	"bytes"
	"maps"
	"math/rand/v2"
	"slices"
	"testing"

	"bastion/api"
	"bastion/disk"
	"bastion/journal"
	"bastion/store"
)

// told is a store, told a second time: what stands, what the act has come to, and whose values, as they are now, were put in the act.
type told struct {
	size        int
	stands, now map[string]string
	inAct       map[string]int
}

func newTold(size int) *told {
	return &told{size, map[string]string{}, map[string]string{}, map[string]int{}}
}

func (w *told) copy() *told {
	return &told{w.size, maps.Clone(w.stands), maps.Clone(w.now), maps.Clone(w.inAct)}
}

// pages is how many pages there are, counted one by one.
func (w *told) pages() int {
	n := 0
	for rest := w.size - 122; rest > 1; rest -= 2 {
		n++
	}
	return n
}

// long is how many long blocks there are.
func (w *told) long() int { return w.size - 122 - w.pages() }

// needed is how many long blocks a value takes, counted one by one.
func needed(data string) int {
	if len(data) < 64 {
		return 0
	}
	blocks, full := 0, 0
	for rest := len(data); rest > 0; rest -= 256 {
		blocks++
	}
	for rest := blocks; rest > 0; rest -= 120 {
		full++
	}
	return blocks + full
}

// room is how many long blocks are free: those are taken that stand, and those put in the act.
func (w *told) room() int {
	n := w.long()
	for _, data := range w.stands {
		n -= needed(data)
	}
	for key := range w.inAct {
		n -= needed(w.now[key])
	}
	return n
}

// put puts a value, where so many pages are free.
func (w *told) put(key, data string, pages int) api.Errno {
	switch {
	case key == "", len(key) >= 33, len(data) >= 131073:
		return api.ErrArg
	case pages < 16, needed(data) > w.room():
		return api.ErrFull
	}
	w.now[key], w.inAct[key] = data, 1
	return api.OK
}

func (w *told) del(key string) api.Errno {
	if _, is := w.now[key]; !is {
		return api.ErrNone
	}
	delete(w.now, key)
	delete(w.inAct, key)
	return api.OK
}

func (w *told) commit() { w.stands, w.inAct = maps.Clone(w.now), map[string]int{} }

func (w *told) back() { w.now, w.inAct = maps.Clone(w.stands), map[string]int{} }

// keys are those from from on, and below to, if that is not empty.
func (w *told) keys(from, to string) []string {
	var l []string
	for _, key := range slices.Sorted(maps.Keys(w.now)) {
		if bytes.Compare([]byte(key), []byte(from)) >= 0 && (to == "" || bytes.Compare([]byte(key), []byte(to)) < 0) {
			l = append(l, key)
		}
	}
	return l
}

// bench is a store, its disk, and what is told of it.
type bench struct {
	*store.Store
	d      *disk.Disk
	w      *told
	stands store.Parts // when the last act ended, or the store was opened
}

// newBench is a store on a new disk of size blocks.
func newBench(t *testing.T, size int) *bench {
	t.Helper()
	return benchOn(t, newDisk(t, size), newTold(size))
}

func newDisk(t *testing.T, size int) *disk.Disk {
	t.Helper()
	d, e := disk.New(size)
	if e != api.OK {
		t.Fatalf("disk.New(%d): %d", size, int(e))
	}
	return d
}

// opened is the store on d.
func opened(t *testing.T, d *disk.Disk) *store.Store {
	t.Helper()
	s, e := store.Open(d)
	if s == nil || e != api.OK {
		t.Fatalf("Open: %v, %d", s != nil, int(e))
	}
	return s
}

// benchOn is the store on d, of which w is told.
func benchOn(t *testing.T, d *disk.Disk, w *told) *bench {
	t.Helper()
	s := opened(t, d)
	w.back()
	return &bench{s, d, w, s.Parts()}
}

// copied is what stands of a store, on a disk of its own.
func (b *bench) copied(t *testing.T) *bench {
	t.Helper()
	return benchOn(t, b.d.Copy(), b.w.copy())
}

func checkNotOpened(t *testing.T, d *disk.Disk, want api.Errno) {
	t.Helper()
	if s, e := store.Open(d); s != nil || e != want {
		t.Errorf("Open: %v, %d; want %d", s != nil, int(e), int(want))
	}
}

// reopened is what a dead disk comes to.
func reopened(t *testing.T, d *disk.Disk) *disk.Disk {
	t.Helper()
	again, e := d.Reopen()
	if again == nil || e != api.OK {
		t.Fatalf("Reopen: %d", int(e))
	}
	return again
}

// killed is d, cut off at the next write.
func killed(t *testing.T, d *disk.Disk) *disk.Disk {
	t.Helper()
	d.Cut(0)
	if e := d.Write(0, make([]byte, 256)); e != api.ErrDead {
		t.Fatalf("a write behind Cut(0): %d", int(e))
	}
	return d
}

// image are all blocks of a disk, dead or not.
func image(t *testing.T, d *disk.Disk) [][]byte {
	t.Helper()
	if d.Dead() {
		d = reopened(t, d)
	}
	all := make([][]byte, d.Len())
	for i := range all {
		b, e := d.Read(i)
		if e != api.OK {
			t.Fatalf("the block %d is not read: %d", i, int(e))
		}
		all[i] = b
	}
	return all
}

// changed are the blocks of d that doing changes, rising.
func changed(t *testing.T, d *disk.Disk, do func()) []int {
	t.Helper()
	before := image(t, d)
	do()
	var l []int
	for i, b := range image(t, d) {
		if !bytes.Equal(b, before[i]) {
			l = append(l, i)
		}
	}
	return l
}

// text is n bytes that another seed does not have; no two blocks of them are the same.
func text(n, seed int) string {
	from := rand.New(rand.NewPCG(9, uint64(seed)))
	b := make([]byte, n)
	for i := range b {
		b[i] = byte(from.Uint32())
	}
	return string(b)
}

func checkGet(t *testing.T, s *store.Store, key, want string, wantErr api.Errno) {
	t.Helper()
	if data, e := s.Get(key); data != want || e != wantErr {
		t.Errorf("Get(%q): %.20q, %d bytes, %d; want %.20q, %d bytes, %d", key, data, len(data), int(e), want, len(want), int(wantErr))
	}
}

// check tells where what a call answered is not what it must be.
func check(t *testing.T, what string, got, want api.Errno) {
	t.Helper()
	if got != want {
		t.Errorf("%s: %d; want %d", what, int(got), int(want))
	}
}

// put puts a value, and tells where that is refused, or not, otherwise than it must be.
func (b *bench) put(t *testing.T, key, data string) api.Errno {
	t.Helper()
	want := b.w.put(key, data, b.Pages())
	check(t, "Put of "+key, b.Put(key, data), want)
	return want
}

func (b *bench) del(t *testing.T, key string) {
	t.Helper()
	want := b.w.del(key)
	check(t, "Del of "+key, b.Del(key), want)
}

// commit does the act, and tells where that is not done.
func (b *bench) commit(t *testing.T) {
	t.Helper()
	check(t, "Commit", b.Commit(), api.OK)
	b.w.commit()
	b.stands = b.Parts()
}

// back undoes the act, and tells where another part of the disk is taken than what stands takes.
func (b *bench) back(t *testing.T) {
	t.Helper()
	check(t, "Back", b.Back(), api.OK)
	b.w.back()
	checkSameParts(t, b.Parts(), b.stands)
}

// anew is the store, opened anew: what was not committed is lost.
func (b *bench) anew(t *testing.T) {
	t.Helper()
	stands := b.stands
	if b.d.Dead() {
		b.d = reopened(t, b.d)
	}
	*b = *benchOn(t, b.d, b.w)
	checkSameParts(t, b.stands, stands)
}

func checkSameParts(t *testing.T, got, want store.Parts) {
	t.Helper()
	if !slices.Equal(got.Pages, want.Pages) || !slices.Equal(got.FreePages, want.FreePages) || !slices.Equal(got.Long, want.Long) || !slices.Equal(got.FreeLong, want.FreeLong) {
		t.Errorf("pages %v, long blocks %v; want %v, %v", got.Pages, got.Long, want.Pages, want.Long)
	}
}

// checkParts tells where the parts of the disk are not apart, or not together the disk, or not as many as is told.
func checkParts(t *testing.T, s *store.Store, w *told) {
	t.Helper()
	p := s.Parts()
	times := make([]int, w.size)
	for i := range 122 {
		times[i]++
	}
	for no, l := range [][]int{p.Pages, p.FreePages, p.Long, p.FreeLong} {
		first, end := 122, 122+w.pages()
		if no >= 2 {
			first, end = end, w.size
		}
		last := first - 1
		for _, i := range l {
			if i <= last || i >= end {
				t.Fatalf("the list %d of Parts: %v; want what rises from %d on, and is below %d", no, l, first, end)
			}
			last = i
			times[i]++
		}
	}
	for i, n := range times {
		if n != 1 {
			t.Errorf("the block %d stands %d times in the parts of the disk", i, n)
		}
	}
	if len(p.FreePages) != s.Pages() || len(p.FreeLong) != s.Room() || s.Room() != w.room() || len(p.Pages) > 3*len(w.now) {
		t.Errorf("Pages %d, Room %d; want %d, %d; %d pages for %d values", s.Pages(), s.Room(), len(p.FreePages), w.room(), len(p.Pages), len(w.now))
	}
}

// checkStore tells where a store is not as it is told.
func checkStore(t *testing.T, s *store.Store, w *told) {
	t.Helper()
	if l := s.Keys("", ""); !slices.Equal(l, w.keys("", "")) {
		t.Errorf("Keys: %q; want %q", l, w.keys("", ""))
	}
	for key, data := range w.now {
		checkGet(t, s, key, data, api.OK)
		if _, is := w.now[key+"\x00"]; !is {
			checkGet(t, s, key+"\x00", "", api.ErrNone)
		}
	}
	checkParts(t, s, w)
}

// checkAll tells where a store is not as it is told; nor what stands, opened on a copy of the disk.
func (b *bench) checkAll(t *testing.T) {
	t.Helper()
	writes := b.d.Writes()
	checkStore(t, b.Store, b.w)
	c := b.copied(t)
	checkStore(t, c.Store, c.w)
	checkSameParts(t, c.stands, b.stands)
	if b.d.Writes() != writes || c.d.Writes() != writes {
		t.Errorf("%d, %d writes by what is asked, and by Open", b.d.Writes()-writes, c.d.Writes()-writes)
	}
}

// checkRefused tells where a call of a store that answers an error answers another one than want.
func checkRefused(t *testing.T, s *store.Store, want api.Errno) {
	t.Helper()
	for _, key := range []string{"", "a", "none", text(33, 1)} {
		checkGet(t, s, key, "", want)
		check(t, "Del of "+key, s.Del(key), want)
		for _, n := range []int{0, 63, 64, 300, 1 << 17, 1<<17 + 1} {
			check(t, "Put of "+key, s.Put(key, text(n, 2)), want)
		}
	}
	check(t, "Commit", s.Commit(), want)
	check(t, "Back", s.Back(), want)
}

// group is what makes so many blocks of c, from first on.
func group(c byte, blocks ...int) []journal.Write {
	var l []journal.Write
	for _, i := range blocks {
		l = append(l, journal.Write{Block: i, Data: bytes.Repeat([]byte{c}, 256)})
	}
	return l
}
