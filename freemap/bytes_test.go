package freemap_test

import (
	"bytes"
	"testing"

	"bastion/api"
	"bastion/freemap"
)

// P5.2: the bytes of maps, byte for byte.
func TestBytes(t *testing.T) {
	for _, c := range []struct {
		size  int
		taken []int
		want  string
	}{
		{0, nil, "\x00"},
		{1, nil, "\x01\x00"},
		{1, []int{0}, "\x01\x01"},
		{8, []int{7}, "\x08\x80"},
		{8, []int{0, 1, 2, 3, 4, 5, 6, 7}, "\x08\xff"},
		{9, []int{8}, "\x09\x00\x01"},
		{10, []int{0, 1, 2, 9}, "\x0a\x07\x02"},
		{16, []int{3, 12}, "\x10\x08\x10"},
		{127, []int{126}, "\x7f" + string(make([]byte, 15)) + "\x40"},
		{128, []int{127}, "\x80\x01" + string(make([]byte, 15)) + "\x80"},
		{32768, []int{32767}, "\x80\x80\x02" + string(make([]byte, 4095)) + "\x80"},
	} {
		m := withTaken(t, c.size, c.taken)
		if got := string(m.Bytes()); got != c.want {
			t.Errorf("Bytes of %d, %v: % .20x; want % .20x", c.size, c.taken, got, c.want)
		}
		checkAll(t, loaded(t, []byte(c.want)), &told{c.size, c.taken})
	}
}

// P5.2, P5.4: what is loaded of a map's bytes is that map, and has these bytes; it goes on as that map does.
func TestBack(t *testing.T) {
	for _, n := range sizes() {
		for _, row := range rows(n) {
			want := &told{n, row}
			m := withTaken(t, n, row)
			back := loaded(t, m.Bytes())
			checkAll(t, back, want)
			checkAll(t, loaded(t, want.bytes()), want)

			want = want.copy()
			i, e := want.take()
			checkTake(t, m, i, e)
			checkTake(t, back, i, e)
			checkAll(t, back, want)
		}
	}
}

// wrongBytes are no map's bytes.
func wrongBytes() map[string][]byte {
	return map[string][]byte{
		"none":                         nil,
		"empty":                        {},
		"no mark at all":               []byte("\x0a"),
		"a byte too few":               []byte("\x0a\x07"),
		"a byte too many":              []byte("\x0a\x07\x02\x00"),
		"a byte too many, of none":     []byte("\x00\x00"),
		"a byte too many, of eight":    []byte("\x08\xff\x00"),
		"a bit past the end":           []byte("\x0a\x07\x04"),
		"the last bit past the end":    []byte("\x0a\x07\x82"),
		"all bits past the end":        []byte("\x01\xfe"),
		"a bit past one":               []byte("\x01\x03"),
		"a bit past seven":             []byte("\x07\x80"),
		"a group too many":             []byte("\x8a\x00\x07\x02"),
		"a group too many, of none":    []byte("\x80\x00"),
		"a group is missing":           []byte("\x8a"),
		"one more than MaxBlocks":      append([]byte("\x81\x80\x02"), make([]byte, 4097)...),
		"eight more than MaxBlocks":    append([]byte("\x88\x80\x02"), make([]byte, 4097)...),
		"65536":                        append([]byte("\x80\x80\x04"), make([]byte, 8192)...),
		"the greatest count":           []byte("\xff\xff\xff\xff\x07\x00"),
		"no count":                     []byte("\x80\x80\x80\x80\x08"),
		"all that 64 bits hold":        []byte("\xff\xff\xff\xff\xff\xff\xff\xff\xff\x01"),
		"MaxBlocks, a byte too few":    append([]byte("\x80\x80\x02"), make([]byte, 4095)...),
		"MaxBlocks, a byte too many":   append([]byte("\x80\x80\x02"), make([]byte, 4097)...),
		"32767, its last bit past it":  append(append([]byte("\xff\xff\x01"), make([]byte, 4095)...), 0x80),
		"a map's bytes, one ahead":     []byte("\x00\x0a\x07\x02"),
		"a map's bytes, and once more": []byte("\x0a\x07\x02\x0a\x07\x02"),
	}
}

// The table of errors: Load.
func TestLoadRefused(t *testing.T) {
	for name, b := range wrongBytes() {
		t.Run(name, func(t *testing.T) { checkNotLoaded(t, b) })
	}
}

// checkLoad tells where Load of bytes is not as it is told a second time.
func checkLoad(t *testing.T, b []byte) {
	t.Helper()
	want, ok := loadTold(b)
	if !ok {
		checkNotLoaded(t, b)
		return
	}
	checkAll(t, loaded(t, b), want)
}

// P5.2, P5.4: whatever the bytes, up to three, and the same behind the counts of more blocks: they are a map's, or refused.
func TestLoadOfAnyBytes(t *testing.T) {
	for i := range 256 {
		checkLoad(t, []byte{byte(i)})
		for _, n := range []byte{0, 1, 3, 7, 8, 9, 10, 15, 16, 17, 0x80, 0x81, 0xff} {
			checkLoad(t, []byte{n, byte(i)})
			checkLoad(t, []byte{n, 0xff, byte(i)})
			checkLoad(t, []byte{n, byte(i), 0})
			checkLoad(t, []byte{n, byte(i), 1})
			checkLoad(t, append([]byte{n, 1}, append(make([]byte, 15), byte(i))...))
		}
	}
}

// P5.4: of a map's bytes with any one bit turned, what is loaded has just these bytes, or nothing is loaded.
func TestLoadOfTurnedBits(t *testing.T) {
	for _, n := range []int{0, 1, 10, 64, 131} {
		for _, row := range rows(n) {
			b := (&told{n, row}).bytes()
			for i := range 8 * len(b) {
				turned := bytes.Clone(b)
				turned[i/8] ^= 1 << (i % 8)
				checkLoad(t, turned)
			}
			for cut := range b {
				checkLoad(t, b[:cut])
			}
		}
	}
}

// P5.2 with R3: what is loaded is not changed, nor read behind its end, nor kept.
func TestLoadedIsNotKept(t *testing.T) {
	room := []byte("\x0a\x07\x02\xff\xff")
	m := loaded(t, room[:3])
	checkNotLoaded(t, room[:2])
	if string(room) != "\x0a\x07\x02\xff\xff" {
		t.Errorf("what was handed in is changed: % x", room)
	}
	checkClaim(t, m, 5, api.OK)
	checkDrop(t, m, 9, api.OK)
	if string(room) != "\x0a\x07\x02\xff\xff" {
		t.Errorf("what was handed in shows what was done: % x", room)
	}
	clear(room)
	checkAll(t, m, &told{10, []int{0, 1, 2, 5}})
}

// P5.2 with R3: the bytes are new memory, with all their room.
func TestBytesAreApart(t *testing.T) {
	for _, n := range []int{0, 10, 300} {
		for _, row := range rows(n) {
			want := &told{n, row}
			m := withTaken(t, n, row)
			first, second := m.Bytes(), m.Bytes()
			room := first[:cap(first)]
			for i := range room {
				room[i] = 0x55
			}
			if !bytes.Equal(second, want.bytes()) {
				t.Errorf("other bytes show what was written: % .20x", second)
			}
			checkAll(t, m, want)
			checkTake(t, loaded(t, second), firstFree(n, row), errorOfTake(n, row))
			m.Take()
			m.Drop(0)
			if !bytes.Equal(second, want.bytes()) {
				t.Errorf("the bytes show what was done later: % .20x", second)
			}
		}
	}
}

// firstFree is what Take tells of a map of which a list is taken.
func firstFree(n int, row []int) int {
	i, _ := (&told{n, row}).copy().take()
	return i
}

// errorOfTake is how Take is refused by a map of which a list is taken.
func errorOfTake(n int, row []int) api.Errno {
	_, e := (&told{n, row}).copy().take()
	return e
}

// P5.2: a copy stands as the map does, and each goes its own way.
func TestCopy(t *testing.T) {
	for _, n := range []int{0, 1, 10, 300, 32768} {
		for _, row := range rows(n) {
			want := &told{n, row}
			m := withTaken(t, n, row)
			c := m.Copy()
			if c == m {
				t.Error("a copy is the map itself")
			}
			checkAll(t, c, want)
			goOn(m)
			checkAll(t, c, want)
			kept := m.Copy()
			goOn(c)
			goOn(c)
			if !bytes.Equal(m.Bytes(), kept.Bytes()) {
				t.Errorf("a map of %d sees what its copy did", n)
			}
		}
	}
}

// goOn does something to a map, however it stands.
func goOn(m *freemap.Map) {
	m.Take()
	for i := range min(m.Len(), 20) {
		if m.Claim(i) != api.OK {
			m.Drop(i)
		}
	}
}
