package store_test

import (
	"fmt"
	"maps"
	"slices"
	"testing"

	"bastion/api"
	"bastion/disk"
	"bastion/store"
)

// change is a value that is put in an act; or goes, if its size is below 0.
type change struct {
	key  string
	size int
}

const gone = -1

// noCut is a cut that is not met any more.
const noCut = 1 << 40

// cutActs are acts that are cut behind each of their writes.
func cutActs() [][]change {
	return [][]change{
		{},
		{{"a", 3}},
		{{"a", gone}},
		{{"b", 300}},
		{{"b", gone}, {"a", 1000}},
		{{"b", 3}, {"c", 63}, {"e", 64}},
		{{"d", 700}, {"d", 900}, {"d", gone}, {"d", 500}},
		{{"b", gone}, {"b", 600}, {"c", 10}, {"b", gone}, {"b", 600}},
		{{"a", gone}, {"b", gone}, {"c", gone}, {"f", gone}},
		{{"a", gone}, {"b", gone}, {"c", gone}, {"f", gone}, {"g", 2000}},
		{{"x", gone}, {"h", 0}, {"i", 5000}, {"c", 9000}},
	}
}

// used is a store on which acts were committed.
func used(t *testing.T) *bench {
	t.Helper()
	b := newBench(t, 512)
	for no, c := range []change{{"a", 1}, {"b", 300}, {"c", 1500}, {"d", 20}, {"e", 700}} {
		b.put(t, c.key, text(c.size, no))
	}
	b.commit(t)
	b.put(t, "f", text(256, 6))
	b.del(t, "d")
	b.del(t, "e")
	b.commit(t)
	return b
}

// many is a store whose pages are many, and the act that changes more than a few of them.
func many(t *testing.T) (*bench, []change) {
	t.Helper()
	b := newBench(t, 512)
	var act []change
	for i := range 90 {
		b.put(t, fmt.Sprintf("key %02d", i), text(i%70, i))
		switch i % 9 {
		case 2:
			act = append(act, change{fmt.Sprintf("key %02d", i), gone})
		case 5:
			act = append(act, change{fmt.Sprintf("key %02d", i), 60}, change{fmt.Sprintf("more %02d", i), 62})
		case 7:
			act = append(act, change{fmt.Sprintf("key %02d", i), 200})
		}
	}
	b.commit(t)
	return b, act
}

// step does one change.
func (b *bench) step(c change, seed int) api.Errno {
	if c.size == gone {
		return b.Del(c.key)
	}
	return b.Put(c.key, text(c.size, seed))
}

// tell tells one change.
func (w *told) tell(c change, seed, pages int) api.Errno {
	if c.size == gone {
		return w.del(c.key)
	}
	return w.put(c.key, text(c.size, seed), pages)
}

// checkCut tells where a store is not as one whose disk has just been cut.
func (b *bench) checkCut(t *testing.T, e api.Errno, before store.Parts) {
	t.Helper()
	if e != api.ErrDead || !b.d.Dead() {
		t.Errorf("a call, in a cut: %d, dead: %v", int(e), b.d.Dead())
	}
	checkSameParts(t, b.Parts(), before)
	if l := b.Keys("", ""); !slices.Equal(l, b.w.keys("", "")) {
		t.Errorf("Keys, behind a cut: %q; want %q", l, b.w.keys("", ""))
	}
	checkParts(t, b.Store, b.w)
	checkRefused(t, b.Store, api.ErrDead)
}

// doneOrCut does an act, and commits it, with a cut of n: what may stand then on the disk that is left, and whether the disk was cut.
func (b *bench) doneOrCut(t *testing.T, act []change, n int) ([]map[string]string, bool) {
	t.Helper()
	b.d.Cut(n)
	stood := maps.Clone(b.w.stands)
	for no, c := range act {
		before, w := b.Parts(), b.w.copy()
		want := w.tell(c, 100+no, b.Pages())
		e := b.step(c, 100+no)
		if e == api.ErrDead {
			b.checkCut(t, e, before)
			return []map[string]string{stood}, true
		}
		check(t, "a change of "+c.key, e, want)
		b.w = w
	}
	before, left := b.Parts(), maps.Clone(b.w.now)
	if e := b.Commit(); e != api.OK {
		b.checkCut(t, e, before)
		return []map[string]string{stood, left}, true
	}
	b.w.commit()
	b.d.Cut(noCut)
	checkStore(t, b.Store, b.w)
	return []map[string]string{left}, false
}

// left does an act at a copy of a store, with a cut of n: the disk that is left, what stands there, which is one of what may, and whether it was cut.
func (b *bench) left(t *testing.T, act []change, n int) (*disk.Disk, *told, bool) {
	t.Helper()
	c := b.copied(t)
	may, cut := c.doneOrCut(t, act, n)
	d := c.d
	if cut {
		d = reopened(t, d)
	}
	return d, checkOneOf(t, d, may), cut
}

// openedOrCut opens d with a cut of n in life after life, till it goes well or there were enough lives; what it comes to is not cut any more.
func openedOrCut(t *testing.T, d *disk.Disk, n, lives int) *disk.Disk {
	t.Helper()
	for range lives {
		d.Cut(n)
		s, e := store.Open(d)
		if e == api.OK {
			if s == nil || d.Dead() {
				t.Errorf("Open with a cut of %d: %v, dead: %v", n, s != nil, d.Dead())
			}
			break
		}
		if s != nil || e != api.ErrDead || !d.Dead() {
			t.Errorf("Open with a cut of %d: %v, %d, dead: %v", n, s != nil, int(e), d.Dead())
		}
		d = reopened(t, d)
	}
	d.Cut(noCut)
	return d
}

// checkOneOf is the one of what may stand that stands on a copy of d, all of it.
func checkOneOf(t *testing.T, d *disk.Disk, may []map[string]string) *told {
	t.Helper()
	s := opened(t, d.Copy())
	w := newTold(d.Len())
	for _, w.stands = range may {
		w.back()
		if same := func() bool {
			for key, data := range w.now {
				if got, e := s.Get(key); got != data || e != api.OK {
					return false
				}
			}
			return slices.Equal(s.Keys("", ""), w.keys("", ""))
		}(); same {
			checkStore(t, s, w)
			return w
		}
	}
	t.Fatalf("what stands is none of what may: %q", s.Keys("", ""))
	return nil
}

// checkFollowed does one more act on d, where w stands, and tells where that goes otherwise than it must.
func checkFollowed(t *testing.T, d *disk.Disk, w *told) {
	t.Helper()
	b := benchOn(t, d, w.copy())
	b.checkAll(t)
	b.put(t, "b", text(900, 200))
	b.put(t, "z", text(400, 201))
	b.put(t, "a", "followed")
	b.del(t, "c")
	b.commit(t)
	b.checkAll(t)
}

// P9.4: a cut behind each number of writes of an act and its Commit; then, behind each number of writes of the Open that follows, once and again: all of what stood is there, or all of what the act left; and the next act goes well.
func TestCutAnywhere(t *testing.T) {
	base := used(t)
	for no, act := range cutActs() {
		t.Run(fmt.Sprint(no), func(t *testing.T) {
			for n, cut := 0, true; cut; n++ {
				var d *disk.Disk
				var w *told
				d, w, cut = base.left(t, act, n)
				for m := range 5 {
					for _, lives := range []int{1, 3} {
						c := openedOrCut(t, d.Copy(), m, lives)
						checkFollowed(t, c, checkOneOf(t, c, []map[string]string{w.stands}))
					}
				}
			}
		})
	}
}

// P9.4: the first act of all, cut anywhere: a disk without values, or with all of them.
func TestCutOfFirstAct(t *testing.T) {
	for no, act := range cutActs()[4:8] {
		first := slices.DeleteFunc(act, func(c change) bool { return c.size == gone })
		for n, cut := 0, true; cut; n++ {
			var d *disk.Disk
			var w *told
			d, w, cut = newBench(t, 513).left(t, first, n)
			if !cut && len(w.stands) == 0 {
				t.Fatalf("act %d: nothing was put", no)
			}
			for m := range 4 {
				c := openedOrCut(t, d.Copy(), m, 2)
				checkFollowed(t, c, checkOneOf(t, c, []map[string]string{w.stands}))
			}
		}
	}
}

// P9.4: an act of many pages, cut behind each number of writes; so is, now and then, the Open that follows.
func TestCutOfManyPages(t *testing.T) {
	base, act := many(t)
	seen := map[bool]int{}
	for n, cut := 0, true; cut; n++ {
		var d *disk.Disk
		var w *told
		d, w, cut = base.left(t, act, n)
		_, left := w.stands["more 05"]
		seen[left]++
		c := openedOrCut(t, d, n%23, 2)
		checkFollowed(t, c, checkOneOf(t, c, []map[string]string{w.stands}))
	}
	if seen[false] < 20 || seen[true] < 20 {
		t.Errorf("cuts behind which the act had been done, or not: %v", seen)
	}
}

// P9.4: one act is cut behind another, each in a life of its own, over the blocks of what has gone.
func TestCutAgain(t *testing.T) {
	base := used(t)
	acts := cutActs()
	for n := range 12 {
		d, w, _ := base.left(t, acts[4], n)
		first := benchOn(t, d, w)
		for _, act := range acts[5:8] {
			for m := range 14 {
				d, w, _ := first.left(t, act, m)
				checkFollowed(t, d, w)
			}
		}
	}
}

// P9.4: what was committed stands, whatever is done in the acts behind it that come to no Commit: their values take no block of what stands.
func TestStandsWhateverIsPut(t *testing.T) {
	b := used(t)
	for round := range 60 {
		key := fmt.Sprintf("%c", 'a'+round%7)
		switch round % 4 {
		case 0, 1:
			b.put(t, key, text(100*round, round))
		case 2:
			b.del(t, key)
		default:
			b.put(t, key, text(round, round))
		}
		c := opened(t, reopened(t, killed(t, b.d.Copy())))
		w := b.w.copy()
		w.back()
		checkStore(t, c, w)
		checkSameParts(t, c.Parts(), b.stands)
		if round%20 == 19 {
			b.back(t)
			b.checkAll(t)
		}
	}
	b.anew(t)
	b.checkAll(t)
}
