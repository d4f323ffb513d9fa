package tree_test

import (
	"fmt"
	"maps"
	"math/rand/v2"
	"slices"
	"strings"
	"testing"

	"bastion/api"
	"bastion/tree"
)

// script is a tree to which things are done, its pairs now and when it was last clean, and the disk on which it lay then.
type script struct {
	x        *tree.Tree
	n        int
	now, was told
	disk     disk
	cleaned  bool // it was clean behind its beginning
}

// newScript is a tree without pairs.
func newScript(t *testing.T, n int) *script {
	t.Helper()
	return &script{x: newTree(t, n), n: n, now: told{}, was: told{}, disk: disk{image: make([][]byte, n)}}
}

// put puts a pair, and tells where that is refused, or not, otherwise than it must be.
func (s *script) put(t *testing.T, key, value string) {
	t.Helper()
	want := api.ErrFull
	if s.x.Free() >= tree.Spare {
		want = api.OK
		s.now[key] = value
	}
	checkPut(t, s.x, key, value, want)
}

// del takes a pair out, or finds none.
func (s *script) del(t *testing.T, key string) {
	t.Helper()
	want := api.ErrNone
	if _, is := s.now[key]; is {
		want = api.OK
		delete(s.now, key)
	}
	checkDel(t, s.x, key, want)
}

// clean lets nothing have changed; what is on the disk is what stands.
func (s *script) clean(t *testing.T) {
	t.Helper()
	s.disk = s.disk.written(t, s.x)
	s.x.Clean()
	s.was = maps.Clone(s.now)
	s.cleaned = true
	checkDirty(t, s.x)
}

// check tells where the tree is not as it is told.
func (s *script) check(t *testing.T) {
	t.Helper()
	checkPairs(t, s.x, s.now)
	checkPages(t, s.x, s.n)
	s.disk.written(t, s.x).checkLaid(t, s.x, s.now)
}

// back undoes what changed, and tells where something is left of it.
func (s *script) back(t *testing.T) {
	t.Helper()
	if e := s.x.Back(); e != api.OK {
		t.Error("Back:", int(e))
	}
	s.now = maps.Clone(s.was)
	s.check(t)
	checkDirty(t, s.x)
	if !slices.Equal(s.x.Used(), s.disk.used) {
		t.Errorf("behind Back: Used %v; want %v", s.x.Used(), s.disk.used)
	}
}

// step does one thing of many.
func (s *script) step(t *testing.T, from *rand.Rand, keys []string) {
	t.Helper()
	key := keys[from.IntN(len(keys))]
	switch kind := from.IntN(40); {
	case kind < 18:
		s.put(t, key, strings.Repeat("v", from.IntN(65)))
		checkWaste(t, s.x)
	case kind < 34:
		_, is := s.now[key]
		s.del(t, key)
		if is {
			checkWaste(t, s.x)
		}
	case kind < 36:
		s.clean(t)
	case kind < 37:
		s.back(t)
	case kind < 38:
		s.clean(t)
		s.disk.spoilUnused(from)
		s.x = opened(t, s.x.Root(), s.disk.image)
	case kind < 39:
		other := keys[from.IntN(len(keys))]
		checkRange(t, s.x, key, other, s.now.list(key, other))
	default:
		s.check(t)
	}
}

// P7.1 to P7.6: whatever is put and goes, is clean, is undone, is opened anew: all is as it is told.
func TestScripts(t *testing.T) {
	from := rand.New(rand.NewPCG(10, 2026))
	for round := range 120 {
		k := keyMakers()[round%len(keyMakers())]
		s := newScript(t, []int{17, 20, 40, 90, 400}[round/len(keyMakers())%5])
		var keys []string
		for i := range 1 + from.IntN(200) {
			keys = append(keys, k.of(i))
		}
		for step := range 400 {
			s.step(t, from, keys)
			if t.Failed() {
				t.Fatalf("keys %s, %d pages, round %d, step %d", k.name, s.n, round, step)
			}
		}
		s.check(t)
	}
}

// P7.3 to P7.5: pairs of each shape, put till there is no room, then taken out in any order till there is none; held against what is told, now and then.
func TestFilledAndEmptied(t *testing.T) {
	from := rand.New(rand.NewPCG(11, 2026))
	for _, k := range keyMakers() {
		for _, size := range []int{0, 5, 64} {
			t.Run(fmt.Sprint(k.name, ", ", size), func(t *testing.T) {
				s := newScript(t, 150)
				for i := 0; i < 3000 && s.x.Free() >= tree.Spare; i++ {
					s.put(t, k.of(i), strings.Repeat("v", size))
					checkWaste(t, s.x)
				}
				s.check(t)
				if s.x.Free() < tree.Spare {
					s.put(t, "one more", "")
					s.put(t, k.of(0), "")
				}
				s.clean(t)
				s.empty(t, from)
				s.back(t)
			})
		}
	}
}

// empty takes out all pairs, in an order that is drawn.
func (s *script) empty(t *testing.T, from *rand.Rand) {
	t.Helper()
	keys := slices.Sorted(maps.Keys(s.now))
	from.Shuffle(len(keys), func(i, j int) { keys[i], keys[j] = keys[j], keys[i] })
	for i, key := range keys {
		s.del(t, key)
		checkWaste(t, s.x)
		if i%100 == 0 {
			s.check(t)
		}
		if t.Failed() {
			t.Fatal("behind", i, "of", len(keys))
		}
	}
	if s.x.Root() != -1 || s.x.Free() != s.n || len(s.x.Dirty()) != 0 {
		t.Errorf("Root %d, Free %d, Dirty %v", s.x.Root(), s.x.Free(), s.x.Dirty())
	}
}

// P7.3, P7.4: as many pages as there may be, and as many pairs as go there.
func TestGreatest(t *testing.T) {
	s := newScript(t, api.MaxBlocks)
	for i := 0; s.x.Free() >= tree.Spare; i++ {
		key := fmt.Sprintf("%032x", uint64(i)*0x9e3779b97f4a7c15)
		s.put(t, key, strings.Repeat("v", 64))
	}
	checkPages(t, s.x, s.n)
	checkWaste(t, s.x)
	s.put(t, "one more", "")
	s.clean(t)
	s.disk.checkLaid(t, s.x, s.now)
	from := rand.New(rand.NewPCG(12, 2026))
	keys := slices.Sorted(maps.Keys(s.now))
	for _, i := range from.Perm(len(keys))[:len(keys)*9/10] {
		s.del(t, keys[i])
	}
	checkPages(t, s.x, s.n)
	checkWaste(t, s.x)
	s.disk.written(t, s.x).checkLaid(t, s.x, s.now)
}
