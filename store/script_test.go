package store_test

import (
	"fmt"
	"maps"
	"math/rand/v2"
	"slices"
	"testing"

	"bastion/api"
)

// life is a store to which things are done at random.
type life struct {
	*bench
	from *rand.Rand
	keys []string
}

// newLife is a store without values, and the keys of which things are told.
func newLife(t *testing.T, from *rand.Rand, size, keys int) *life {
	t.Helper()
	s := &life{newBench(t, size), from, nil}
	for i := range keys {
		s.keys = append(s.keys, text(1+from.IntN(32), i))
	}
	return s
}

// value is a value of any size, at times one for which there may be no room.
func (s *life) value() string {
	n := s.from.IntN(70)
	switch s.from.IntN(12) {
	case 0, 1, 2:
		n = s.from.IntN(2500)
	case 3:
		n = 256 * s.from.IntN(6)
	case 4:
		n = s.from.IntN(256*s.w.long() + 1000)
	case 5:
		n = 62 + s.from.IntN(4)
	}
	return text(n, s.from.IntN(1<<30))
}

// arm lets the disk be cut some writes on.
func (s *life) arm() { s.d.Cut(s.from.IntN(12) * s.from.IntN(12)) }

// died starts the store anew on a disk that was cut: one of what may stand does. The Open that follows is cut at times, too.
func (s *life) died(t *testing.T, e api.Errno, may ...map[string]string) {
	t.Helper()
	s.checkCut(t, e, s.Parts())
	d := openedOrCut(t, reopened(t, s.d), s.from.IntN(20), s.from.IntN(3))
	s.bench = benchOn(t, d, checkOneOf(t, d, may))
}

// change puts a value, or takes one out.
func (s *life) change(t *testing.T) string {
	t.Helper()
	key, data := s.keys[s.from.IntN(len(s.keys))], s.value()
	w, stands := s.w.copy(), maps.Clone(s.w.stands)
	if s.from.IntN(3) == 0 {
		want := w.del(key)
		check(t, "Del", s.Del(key), want)
		s.w = w
		return fmt.Sprintf("Del(%q)", key)
	}
	want := w.put(key, data, s.Pages())
	what := fmt.Sprintf("Put(%q, %d bytes)", key, len(data))
	e := s.Put(key, data)
	if e == api.ErrDead {
		s.died(t, e, stands)
		return what + ", cut"
	}
	check(t, what, e, want)
	if want == api.OK {
		s.w = w
	}
	return what
}

// end commits the act.
func (s *life) end(t *testing.T) string {
	t.Helper()
	stands, left := maps.Clone(s.w.stands), maps.Clone(s.w.now)
	used := len(s.Parts().Pages)
	switch e := s.Commit(); {
	case e == api.OK:
		s.w.commit()
		s.stands = s.Parts()
	case e == api.ErrFull && used > 119:
	default:
		s.died(t, e, stands, left)
		return "Commit, cut"
	}
	return "Commit"
}

// step does one thing of many.
func (s *life) step(t *testing.T) string {
	t.Helper()
	switch kind := s.from.IntN(40); {
	case kind < 27:
		return s.change(t)
	case kind < 33:
		return s.end(t)
	case kind < 35:
		s.back(t)
		return "Back"
	case kind < 37:
		s.anew(t)
		return "a start"
	case kind < 38:
		key, other := s.keys[s.from.IntN(len(s.keys))], s.keys[s.from.IntN(len(s.keys))]
		if l := s.Keys(key, other); !slices.Equal(l, s.w.keys(key, other)) {
			t.Errorf("Keys(%q, %q): %q; want %q", key, other, l, s.w.keys(key, other))
		}
		return "Keys"
	default:
		s.arm()
		return "a cut is to come"
	}
}

// P9.1 to P9.6: whatever is put and goes, is committed, undone, and opened anew, and wherever the disk is cut in it: the store is as it is told.
func TestScripts(t *testing.T) {
	from := rand.New(rand.NewPCG(9, 2026))
	for script := range 60 {
		s := newLife(t, from, []int{512, 513, 600, 900}[script%4], 1+from.IntN(60))
		for step := range 90 {
			what := s.step(t)
			checkStore(t, s.Store, s.w)
			if step%9 == 0 && !s.d.Dead() {
				s.checkAll(t)
			}
			if t.Failed() {
				t.Fatalf("script %d, step %d: %s", script, step, what)
			}
		}
	}
}

// P9.6: as many values as there is room for, put, replaced and taken out in any order, held against a map; acts are committed now and then.
func TestFilledAndEmptied(t *testing.T) {
	from := rand.New(rand.NewPCG(10, 2026))
	for _, most := range []int{10, 63, 400} {
		b := newBench(t, 700)
		for i := 0; i < 3000 && b.Pages() >= 16; i++ {
			b.put(t, fmt.Sprintf("%x", uint32(i)*2654435761), text(from.IntN(most+1), i))
			if i%40 == 39 {
				b.commit(t)
			}
		}
		b.checkAll(t)
		b.commit(t)
		b.anew(t)
		keys := b.w.keys("", "")
		from.Shuffle(len(keys), func(i, j int) { keys[i], keys[j] = keys[j], keys[i] })
		for i, key := range keys {
			b.del(t, key)
			if i%50 == 0 {
				b.commit(t)
				b.checkAll(t)
			}
		}
		b.commit(t)
		b.checkAll(t)
		if b.Pages() != 289 || b.Room() != 289 {
			t.Errorf("Pages %d, Room %d, without values", b.Pages(), b.Room())
		}
	}
}
