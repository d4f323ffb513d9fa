package freemap_test

import (
	"bytes"
	"encoding/binary"
	"math"
	"math/big"
	"slices"
	"testing"

	"bastion/api"
	"bastion/freemap"
)

// told is a map, told a second time: its taken blocks, rising.
type told struct {
	size  int
	taken []int
}

// loadTold is the map of bytes, told a second time; false, if they are no map's.
func loadTold(b []byte) (*told, bool) {
	n, head := binary.Uvarint(b)
	if head <= 0 || n > 32768 {
		return nil, false
	}
	m := &told{size: int(n)}
	for i := range m.size {
		if at := head + i/8; at < len(b) && b[at]&(1<<(i%8)) != 0 {
			m.taken = append(m.taken, i)
		}
	}
	// What is no map's bytes is not what this map's bytes are: too few, too many, a bit past the end, a count of more groups than it needs.
	return m, bytes.Equal(m.bytes(), b)
}

func (m *told) has(i int) bool { return i >= 0 && i <= m.size-1 }

func (m *told) stands(i int) bool { return slices.Contains(m.taken, i) }

func (m *told) free() int { return m.size - len(m.taken) }

func (m *told) take() (int, api.Errno) {
	for i := range m.size {
		// Rising, and none left out, up to the least free one.
		if i == len(m.taken) || m.taken[i] != i {
			m.taken = slices.Insert(m.taken, i, i)
			return i, api.OK
		}
	}
	return 0, api.ErrFull
}

func (m *told) claim(i int) api.Errno {
	switch at, there := slices.BinarySearch(m.taken, i); {
	case !m.has(i):
		return api.ErrArg
	case there:
		return api.ErrTwice
	default:
		m.taken = slices.Insert(m.taken, at, i)
		return api.OK
	}
}

func (m *told) drop(i int) api.Errno {
	switch at, there := slices.BinarySearch(m.taken, i); {
	case !m.has(i):
		return api.ErrArg
	case !there:
		return api.ErrNone
	default:
		m.taken = slices.Delete(m.taken, at, at+1)
		return api.OK
	}
}

// bytes are those of a number whose digits of two are the blocks.
func (m *told) bytes() []byte {
	sum := new(big.Int)
	for _, i := range m.taken {
		sum.SetBit(sum, i, 1)
	}
	marks := sum.FillBytes(make([]byte, (m.size+7)/8))
	slices.Reverse(marks)
	return append(binary.AppendUvarint(nil, uint64(m.size)), marks...)
}

func (m *told) copy() *told { return &told{m.size, slices.Clone(m.taken)} }

// sizes are the numbers of blocks beside those where a byte more, or a group more, is needed.
func sizes() []int {
	return []int{0, 1, 2, 7, 8, 9, 10, 15, 16, 17, 63, 64, 65, 127, 128, 129, 1000, 16383, 16384, 16385, 32760, 32761, 32767, 32768}
}

// outside are places at which a map of n blocks has none.
func outside(n int) []int {
	return []int{-1, -8, n, n + 1, n + 7, n + 8, -n - 1, math.MinInt, math.MaxInt, 1 << 32, -1 << 32, 1<<32 + n/2}
}

// rows are lists of taken blocks of a map of n blocks, rising.
func rows(n int) [][]int {
	var all, even, odd, first, last, rare []int
	for i := range n {
		all = append(all, i)
		if i%2 == 0 {
			even = append(even, i)
		} else {
			odd = append(odd, i)
		}
		if i < (n+1)/2 {
			first = append(first, i)
		} else {
			last = append(last, i)
		}
		if i%37 == 5 || i == n-1 {
			rare = append(rare, i)
		}
	}
	return [][]int{nil, all, even, odd, first, last, rare}
}

// newMap is a new map of n blocks.
func newMap(t *testing.T, n int) *freemap.Map {
	t.Helper()
	m, e := freemap.New(n)
	if m == nil || e != api.OK {
		t.Fatalf("New(%d): %v, %d", n, m, int(e))
	}
	return m
}

// withTaken is a map of n blocks of which those of a list are taken.
func withTaken(t *testing.T, n int, l []int) *freemap.Map {
	t.Helper()
	m := newMap(t, n)
	for _, i := range l {
		checkClaim(t, m, i, api.OK)
	}
	return m
}

// loaded is the map of bytes.
func loaded(t *testing.T, b []byte) *freemap.Map {
	t.Helper()
	m, e := freemap.Load(b)
	if m == nil || e != api.OK {
		t.Fatalf("Load of % .20x: %v, %d", b, m, int(e))
	}
	return m
}

// checkNotLoaded tells where Load is not refused as it must be.
func checkNotLoaded(t *testing.T, b []byte) {
	t.Helper()
	if m, e := freemap.Load(b); m != nil || e != api.ErrForm {
		t.Errorf("Load of % .20x, %d bytes: %v, %d", b, len(b), m, int(e))
	}
}

func checkTake(t *testing.T, m *freemap.Map, want int, wantErr api.Errno) {
	t.Helper()
	if i, e := m.Take(); i != want || e != wantErr {
		t.Errorf("Take: %d, %d; want %d, %d", i, int(e), want, int(wantErr))
	}
}

func checkClaim(t *testing.T, m *freemap.Map, i int, want api.Errno) {
	t.Helper()
	if e := m.Claim(i); e != want {
		t.Errorf("Claim(%d): %d; want %d", i, int(e), int(want))
	}
}

func checkDrop(t *testing.T, m *freemap.Map, i int, want api.Errno) {
	t.Helper()
	if e := m.Drop(i); e != want {
		t.Errorf("Drop(%d): %d; want %d", i, int(e), int(want))
	}
}

// checkAll tells where a map is not as it is told.
func checkAll(t *testing.T, m *freemap.Map, want *told) {
	t.Helper()
	if m.Len() != want.size || m.Free() != want.free() {
		t.Errorf("Len %d, Free %d; want %d, %d", m.Len(), m.Free(), want.size, want.free())
	}
	l := m.List()
	if !slices.Equal(l, want.taken) {
		t.Errorf("List of %d: %.60v; want %.60v", want.size, l, want.taken)
	}
	if m.Free()+len(l) != m.Len() {
		t.Errorf("%d are free, %d taken, of %d", m.Free(), len(l), m.Len())
	}
	if b := m.Bytes(); !bytes.Equal(b, want.bytes()) {
		t.Errorf("Bytes of %d: % .20x; want % .20x", want.size, b, want.bytes())
	}
	taken := make(map[int]bool)
	for _, i := range want.taken {
		taken[i] = true
	}
	for i := range want.size {
		if m.Taken(i) != taken[i] {
			t.Errorf("Taken(%d) of %d: %v", i, want.size, m.Taken(i))
		}
	}
	for _, i := range outside(want.size) {
		if m.Taken(i) {
			t.Errorf("Taken(%d) of %d", i, want.size)
		}
	}
}
