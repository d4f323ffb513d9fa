package blob_test

import (
	"fmt"
	"testing"

	"bastion/api"
)

// scattered is a desk of which values were put and dropped, so that what is free is not side by side.
func scattered(t *testing.T) (*bench, *told) {
	t.Helper()
	b, w := newBench(t, 900, 200, 500), newTold(500)
	for no, n := range []int{300, 0, 1000, 256, 700, 31000, 2000, 1, 513} {
		checkPut(t, b, w, text(n, no))
	}
	for _, id := range []int{0, 10, 140} {
		if _, is := w.kept[id]; !is {
			t.Fatalf("no value has the id %d: %v", id, ids(w))
		}
		checkDrop(t, b, w, id)
	}
	return b, w
}

// putOrCut puts data at a copy of a desk, whose disk is cut behind n writes: what it comes to, and what is told of it; false, if it was cut.
func putOrCut(t *testing.T, base *bench, before *told, n int, data string) (*bench, *told, bool) {
	t.Helper()
	b, w := base.copied(t), before.copy()
	want, _ := w.put(data)
	writes := b.d.Writes()
	b.d.Cut(n)
	id, e := 0, api.OK
	checkWritten(t, b, w.kept[want].blocks, func() { id, e = b.Put(data) })
	if e == api.OK {
		if id != want || b.d.Dead() || b.d.Writes()-writes > n {
			t.Errorf("Put of %d bytes, with a cut of %d: %d, %d writes, dead: %v", len(data), n, id, b.d.Writes()-writes, b.d.Dead())
		}
		b.d.Cut(1 << 40)
		checkMap(t, b.m, w)
		return b, w, true
	}
	if e != api.ErrDead || id != 0 || !b.d.Dead() || n >= needed(len(data)) {
		t.Errorf("Put of %d bytes, with a cut of %d: %d, %d, dead: %v", len(data), n, id, int(e), b.d.Dead())
	}
	checkMap(t, b.m, before)
	checkRefused(t, b.Desk, 3, api.ErrDead)
	checkClaimRefused(t, b.Desk, 3, api.ErrDead)
	// Behind the cut nothing is told of its value; those stand that it would not have lain on.
	delete(w.kept, want)
	return b, w, false
}

// P8.2, P8.3, P8.5: a cut behind each number of writes of a Put: if it was refused, nothing is taken, and behind a start all other values stand, dropped ones as well; if not, it stands, too. And what is put then goes well.
func TestCutAnywhere(t *testing.T) {
	base, before := scattered(t)
	for _, size := range []int{0, 1, 257, 700, 3000, 31000} {
		t.Run(fmt.Sprint(size), func(t *testing.T) {
			for n := range needed(size) + 2 {
				if n > 12 && n < needed(size)-6 && n%17 > 0 {
					continue
				}
				b, w, _ := putOrCut(t, base, before, n, text(size, 100))
				b, w = checkRestarted(t, b, w)
				checkPut(t, b, w, text(size+1, 101))
				checkRestarted(t, b, w)
			}
		})
	}
}

// P8.3, P8.5: one Put is cut behind another, each in a life of its own, on blocks of which values were dropped.
func TestCutAgain(t *testing.T) {
	base, before := scattered(t)
	for n := range 5 {
		b, w, done := putOrCut(t, base, before, n, text(700, 100))
		b, w = checkRestarted(t, b, w)
		for m := range 9 {
			c, v, _ := putOrCut(t, b, w, m, text(1500, 101))
			c, v = checkRestarted(t, c, v)
			checkApart(t, c, ids(v))
		}
		if done {
			return
		}
	}
	t.Error("no Put went well")
}

// P8.2, P8.3: a Put that was cut on the very blocks of a value that was dropped: whatever stands there, a Claim of it takes its blocks, or nothing, and writes nothing; what is put then goes well.
func TestCutOverDropped(t *testing.T) {
	for _, c := range []struct{ was, next string }{
		{text(700, 1), text(700, 2)}, {text(700, 1), text(700, 1)}, {text(700, 1), text(701, 1)}, {text(1000, 1), text(700, 1)},
		{text(250, 1), text(250, 2)}, {text(300, 1), text(5000, 1)}, {text(31000, 1), text(31000, 3)}, {"", "x"}, {"x", ""}, {string(make([]byte, 700)), string(make([]byte, 900))},
	} {
		for n := range min(needed(len(c.next)), 9) {
			b, w := newBench(t, 512, 200, 300), newTold(300)
			checkPut(t, b, w, c.was)
			checkDrop(t, b, w, 0)
			b, _, done := putOrCut(t, b, w, n, c.next)
			if done {
				continue
			}
			b, w = b.restarted(t), newTold(300)
			checkAnything(t, b, 0)
			if e := b.Claim(0); e == api.OK {
				l, _ := b.Blocks(0)
				w.hold(true, l...)
			}
			checkMap(t, b.m, w)
			id := checkPut(t, b, w, c.next)
			checkKept(t, b, id, w.kept[id])
		}
	}
}

// P8.2: reading, dropping and claiming write nothing, so that no cut is met.
func TestNoCutIsMet(t *testing.T) {
	b, w := scattered(t)
	b.d.Cut(0)
	checkAll(t, b, w)
	checkDrop(t, b, w, 3)
	checkClaim(t, b, w, 3)
	checkAll(t, b, w)
	again, e := b.d.Reopen()
	if again != nil || e != api.ErrState {
		t.Errorf("the disk is dead: %d", int(e))
	}
}
