package blob_test

import (
	"fmt"
	"maps"
	"math/rand/v2"
	"slices"
	"strings"
	"testing"

	"bastion/api"
)

// life is a desk, what is told of it, and which blocks are taken at its map itself.
type life struct {
	b     *bench
	w     *told
	held  []int
	asked map[int]bool // ids that were ever told
}

// oneOf is one of the keys, at random; false, if there is none.
func oneOf(from *rand.Rand, all map[int]value) (int, bool) {
	l := slices.Sorted(maps.Keys(all))
	if len(l) == 0 {
		return 0, false
	}
	return l[from.IntN(len(l))], true
}

// randomValue is a value of any size, at times one for which there may be no room.
func randomValue(from *rand.Rand, room int) string {
	n := from.IntN(1200)
	switch from.IntN(6) {
	case 0:
		n = 256 * from.IntN(5)
	case 1:
		n = from.IntN(256*room + 600)
	}
	if from.IntN(5) == 0 {
		return strings.Repeat(string(rune('a'+from.IntN(2))), n)
	}
	return text(n, from.IntN(1<<30))
}

// put puts a value; one time of some the disk is cut in it, and the desk starts anew.
func (s *life) put(t *testing.T, from *rand.Rand) string {
	t.Helper()
	data := randomValue(from, s.b.m.Free())
	what := fmt.Sprintf("Put of %d bytes", len(data))
	if needed(len(data)) > s.b.m.Free() || from.IntN(4) > 0 {
		s.asked[checkPut(t, s.b, s.w, data)] = true
		return what
	}
	b, w, done := putOrCut(t, s.b, s.w, from.IntN(needed(len(data))+1), data)
	s.b, s.w = b, w
	if !done {
		s.restart(t, from)
		what += ", cut"
	}
	return what
}

// restart starts the desk anew: what stands is claimed, in any order, or left where it is.
func (s *life) restart(t *testing.T, from *rand.Rand) {
	t.Helper()
	s.b, s.w, s.held = s.b.restarted(t), s.w.restart(), nil
	for len(s.w.gone) > 0 && from.IntN(12) > 0 {
		s.claim(t, from)
	}
}

// claim claims a value that was dropped, and stands.
func (s *life) claim(t *testing.T, from *rand.Rand) string {
	t.Helper()
	id, is := oneOf(from, s.w.gone)
	if !is {
		return "no Claim"
	}
	checkClaim(t, s.b, s.w, id)
	return fmt.Sprintf("Claim(%d)", id)
}

// hold takes a free block at the map itself, or frees one that was taken so.
func (s *life) hold(t *testing.T, from *rand.Rand) string {
	t.Helper()
	if len(s.held) > 3 {
		at := from.IntN(len(s.held))
		i := s.held[at]
		s.held = slices.Delete(s.held, at, at+1)
		s.b.m.Drop(i)
		s.w.hold(false, i)
		return fmt.Sprintf("the map's Drop(%d)", i)
	}
	free := s.w.list(false)
	if len(free) == 0 {
		return "no block"
	}
	i := free[from.IntN(len(free))]
	s.held = append(s.held, i)
	s.b.m.Claim(i)
	s.w.hold(true, i)
	return fmt.Sprintf("the map's Claim(%d)", i)
}

// step does one thing at random.
func (s *life) step(t *testing.T, from *rand.Rand) string {
	t.Helper()
	switch kind := from.IntN(20); {
	case kind < 9:
		return s.put(t, from)
	case kind < 14:
		id, is := oneOf(from, s.w.kept)
		if !is {
			return "no Drop"
		}
		checkDrop(t, s.b, s.w, id)
		return fmt.Sprintf("Drop(%d)", id)
	case kind < 16:
		return s.claim(t, from)
	case kind < 17:
		return s.hold(t, from)
	case kind < 18:
		if id, is := oneOf(from, s.w.kept); is {
			checkClaimRefused(t, s.b.Desk, id, api.ErrTwice)
		}
		return "Claim of what is kept"
	case kind < 19:
		s.restart(t, from)
		return "a start"
	default:
		s.b.kill(t)
		s.restart(t, from)
		return "a cut, and a start"
	}
}

// P8.1 to P8.5: whatever is put, dropped and claimed, and wherever the disk is cut in it: the desk is as it is told.
func TestScripts(t *testing.T) {
	from := rand.New(rand.NewPCG(8, 2026))
	for script := range 40 {
		n := []int{0, 1, 2, 10, 40, 130, 300}[script%7]
		s := &life{newBench(t, 700, 200, n), newTold(n), nil, map[int]bool{}}
		for step := range 80 {
			what := s.step(t, from)
			checkAll(t, s.b, s.w)
			for id := range s.asked {
				checkTakenAgain(t, s.b, s.w, id)
			}
			if len(s.held) == 0 {
				checkApart(t, s.b, ids(s.w))
			}
			if t.Failed() {
				t.Fatalf("script %d, step %d: %s", script, step, what)
			}
		}
	}
}
