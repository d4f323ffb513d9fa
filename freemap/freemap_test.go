package freemap_test

import (
	"fmt"
	"math"
	"slices"
	"testing"

	"bastion/api"
	"bastion/freemap"
)

// P5.1: a new map, of none, of as many as there may be, and of others.
func TestNew(t *testing.T) {
	for _, n := range sizes() {
		checkAll(t, newMap(t, n), &told{size: n})
	}
}

// The table of errors: New.
func TestNewRefused(t *testing.T) {
	for _, n := range []int{-1, -8, 32769, 32776, 1 << 16, 1 << 32, 1<<32 + 10, -1 << 32, math.MinInt, math.MaxInt} {
		if m, e := freemap.New(n); m != nil || e != api.ErrArg {
			t.Errorf("New(%d): %v, %d", n, m, int(e))
		}
	}
}

// P5.1: of whatever is taken, Take tells the least free block.
func TestTakeLeast(t *testing.T) {
	for _, n := range []int{1, 7, 8, 9, 10, 64, 65, 129} {
		for _, row := range rows(n) {
			m, want := withTaken(t, n, row), &told{n, slices.Clone(row)}
			for want.free() > 0 {
				i, e := want.take()
				checkTake(t, m, i, e)
				checkAll(t, m, want)
			}
			checkTake(t, m, 0, api.ErrFull)
			checkAll(t, m, want)
		}
	}
}

// P5.1: what is dropped is the least free block again, if none below it is free.
func TestTakeDropped(t *testing.T) {
	m := withTaken(t, 300, rows(300)[1])
	for _, i := range []int{299, 256, 255, 100, 8, 7, 1, 0} {
		checkDrop(t, m, i, api.OK)
		checkTake(t, m, i, api.OK)
		checkTake(t, m, 0, api.ErrFull)
	}
	for _, i := range []int{8, 299, 7, 64} {
		checkDrop(t, m, i, api.OK)
	}
	for _, i := range []int{7, 8, 64, 299} {
		checkTake(t, m, i, api.OK)
	}
	checkTake(t, m, 0, api.ErrFull)
}

// P5.1: each block is claimed, and dropped, by itself, and each goes on with what was.
func TestClaimAndDropEach(t *testing.T) {
	for _, n := range []int{1, 8, 10, 67} {
		for i := range n {
			free, full := newMap(t, n), withTaken(t, n, rows(n)[1])
			checkClaim(t, free, i, api.OK)
			checkAll(t, free, &told{n, []int{i}})
			checkDrop(t, full, i, api.OK)
			checkAll(t, full, &told{n, slices.Delete(slices.Clone(rows(n)[1]), i, i+1)})
			checkDrop(t, free, i, api.OK)
			checkAll(t, free, &told{size: n})
			checkClaim(t, full, i, api.OK)
			checkAll(t, full, &told{n, rows(n)[1]})
		}
	}
}

// P5.1: the last blocks of the greatest map, and those beside a byte's end.
func TestGreatest(t *testing.T) {
	m, want := newMap(t, 32768), &told{size: 32768}
	for _, i := range []int{32767, 32760, 0, 7, 8, 16384, 16383, 255, 256} {
		checkClaim(t, m, i, want.claim(i))
		checkClaim(t, m, i, want.claim(i))
	}
	checkAll(t, m, want)
	for _, i := range []int{32767, 0, 16384, 32766} {
		checkDrop(t, m, i, want.drop(i))
		checkDrop(t, m, i, want.drop(i))
	}
	checkAll(t, m, want)
}

// The table of errors: Take; what is refused changes nothing.
func TestTakeRefused(t *testing.T) {
	checkTake(t, nil, 0, api.ErrNil)
	for _, n := range sizes() {
		m, want := withTaken(t, n, rows(n)[1]), &told{n, rows(n)[1]}
		for range 3 {
			checkTake(t, m, 0, api.ErrFull)
		}
		checkAll(t, m, want)
	}
}

// The table of errors: Claim and Drop, in its order; what is refused changes nothing.
func TestClaimAndDropRefused(t *testing.T) {
	for _, n := range []int{0, 1, 7, 8, 9, 10, 129, 32768} {
		for _, row := range rows(n) {
			m := withTaken(t, n, row)
			for _, i := range outside(n) {
				checkClaim(t, nil, i, api.ErrNil)
				checkDrop(t, nil, i, api.ErrNil)
				checkClaim(t, m, i, api.ErrArg)
				checkDrop(t, m, i, api.ErrArg)
			}
			checkClaim(t, nil, n/2, api.ErrNil)
			checkDrop(t, nil, n/2, api.ErrNil)
			for _, i := range []int{0, 1, 7, 8, n / 2, n - 2, n - 1} {
				if i < 0 || i >= n {
					continue
				}
				if slices.Contains(row, i) {
					checkClaim(t, m, i, api.ErrTwice)
				} else {
					checkDrop(t, m, i, api.ErrNone)
				}
			}
			checkAll(t, m, &told{n, row})
		}
	}
}

// P5.1 and P5.2: what a nil map answers where it answers no error.
func TestNilMap(t *testing.T) {
	var m *freemap.Map
	if m.Len() != 0 || m.Free() != 0 || len(m.List()) != 0 || len(m.Bytes()) != 0 {
		t.Errorf("of nil: Len %d, Free %d, List %v, Bytes % x", m.Len(), m.Free(), m.List(), m.Bytes())
	}
	for _, i := range append(outside(0), 1, 8) {
		if m.Taken(i) {
			t.Errorf("Taken(%d) of nil", i)
		}
	}
	if c := m.Copy(); c != nil {
		t.Errorf("Copy of nil: %v", c)
	}
}

// R1: a map that did not come out of New or Load makes no call panic.
func TestOtherwiseMade(t *testing.T) {
	for _, m := range []*freemap.Map{{}, new(freemap.Map), new(freemap.Map).Copy()} {
		for _, i := range append(outside(0), 1, 8) {
			m.Taken(i)
			m.Claim(i)
			m.Drop(i)
		}
		m.Len()
		m.Free()
		m.Take()
		m.List()
		m.Bytes()
		m.Copy().Take()
	}
}

// The chapter's examples.
func TestExamples(t *testing.T) {
	m := newMap(t, 10)
	for i := range 3 {
		checkTake(t, m, i, api.OK)
	}
	checkDrop(t, m, 1, api.OK)
	checkTake(t, m, 1, api.OK)
	checkClaim(t, m, 9, api.OK)
	checkClaim(t, m, 9, api.ErrTwice)
	if m.Free() != 6 || !slices.Equal(m.List(), []int{0, 1, 2, 9}) || string(m.Bytes()) != "\x0a\x07\x02" {
		t.Errorf("Free %d, List %v, Bytes % x", m.Free(), m.List(), m.Bytes())
	}
	checkDrop(t, m, 5, api.ErrNone)
	checkDrop(t, m, 10, api.ErrArg)
	checkNotLoaded(t, []byte("\x0a\x07\x04"))
	checkAll(t, m, &told{10, []int{0, 1, 2, 9}})
}

// P5.1 with R3: a list is new memory, with all its room: no later answer shows what is written there, and it shows nothing that is done later.
func TestListIsApart(t *testing.T) {
	m := withTaken(t, 20, []int{3, 9, 19})
	first, second := m.List(), m.List()
	room := first[:cap(first)]
	for i := range room {
		room[i] = 7
	}
	if !slices.Equal(second, []int{3, 9, 19}) {
		t.Errorf("another list shows what was written: %v", second)
	}
	checkAll(t, m, &told{20, []int{3, 9, 19}})
	checkDrop(t, m, 9, api.OK)
	checkTake(t, m, 0, api.OK)
	if !slices.Equal(second, []int{3, 9, 19}) {
		t.Errorf("a list shows what was done later: %v", second)
	}
}

// R2: maps do not see one another.
func TestMapsApart(t *testing.T) {
	one, other := newMap(t, 16), newMap(t, 16)
	checkTake(t, one, 0, api.OK)
	checkClaim(t, one, 15, api.OK)
	checkAll(t, other, &told{size: 16})
	checkClaim(t, other, 1, api.OK)
	checkAll(t, one, &told{16, []int{0, 15}})
	checkAll(t, other, &told{16, []int{1}})
}

// P5.5: Take can be done as often as there are free blocks, and tells each of them once, rising.
func TestAsManyAsThereAre(t *testing.T) {
	for _, n := range sizes() {
		for no, row := range rows(n) {
			t.Run(fmt.Sprint(n, "/", no), func(t *testing.T) {
				m := withTaken(t, n, row)
				left, last := m.Free(), -1
				for range left {
					i, e := m.Take()
					if e != api.OK || i <= last || i >= n {
						t.Fatalf("Take behind %d: %d, %d", last, i, int(e))
					}
					if _, there := slices.BinarySearch(row, i); there {
						t.Fatalf("Take tells %d, which is taken", i)
					}
					last = i
				}
				checkTake(t, m, 0, api.ErrFull)
				checkAll(t, m, &told{n, rows(n)[1]})
			})
		}
	}
}
