package disk_test

import (
	"math"
	"testing"

	"bastion/api"
)

// P3.2, example 1.
func TestCutExample(t *testing.T) {
	d := newDisk(t, 512)
	checkWrite(t, d, 1, full('a'), api.OK)
	checkRead(t, d, 1, full('a'), api.OK)
	checkStands(t, d, 512, 1, false)
	checkCut(t, d, 1, api.OK)
	checkWrite(t, d, 1, full('b'), api.OK)
	checkStands(t, d, 512, 2, false)
	checkWrite(t, d, 2, full('b'), api.ErrDead)
	checkStands(t, d, 512, 2, true)
	checkRead(t, d, 1, nil, api.ErrDead)
	again := reopened(t, d)
	checkRead(t, again, 1, full('b'), api.OK)
	checkRead(t, again, 2, full(0), api.OK)
	checkStands(t, again, 512, 0, false)
}

// P3.2: a cut is there at once, but the disk is dead by a write alone, and read till then.
func TestCutWaitsForAWrite(t *testing.T) {
	d := newDisk(t, 512)
	checkWrite(t, d, 7, full('a'), api.OK)
	checkCut(t, d, 0, api.OK)
	for range 3 {
		checkStands(t, d, 512, 1, false)
		checkRead(t, d, 7, full('a'), api.OK)
		checkNotReopened(t, d, api.ErrState)
	}
	checkWrite(t, d, 7, full('b'), api.ErrDead)
	checkStands(t, d, 512, 1, true)
	checkWrite(t, d, 7, full('c'), api.ErrDead)
	checkRead(t, reopened(t, d), 7, full('a'), api.OK)
}

// P3.2: a cut takes the place of one that there was, be it ahead of it or behind it, and counts from where it is made.
func TestCutInThePlace(t *testing.T) {
	for _, c := range []struct{ first, between, second int }{
		{0, 0, 3}, {3, 0, 0}, {5, 2, 2}, {2, 2, 2}, {2, 2, 0}, {1, 1, 5}, {3, 1, 2}, {3, 3, 3}, {0, 0, 0}, {9, 4, 6}, {math.MaxInt, 2, 1},
	} {
		d := newDisk(t, 512)
		checkCut(t, d, c.first, api.OK)
		for range c.between {
			checkWrite(t, d, 0, full('a'), api.OK)
		}
		checkCut(t, d, c.second, api.OK)
		for range c.second {
			checkWrite(t, d, 0, full('b'), api.OK)
		}
		checkStands(t, d, 512, c.between+c.second, false)
		checkWrite(t, d, 0, full('c'), api.ErrDead)
		checkStands(t, d, 512, c.between+c.second, true)
	}
}

// P3.2 with R1: a cut that is too far away to be reached.
func TestCutFarAway(t *testing.T) {
	d := newDisk(t, 512)
	for n, far := range []int{math.MaxInt, math.MaxInt - 1, 1 << 31, 1 << 32, 1<<32 + 1, math.MaxInt} {
		checkCut(t, d, far, api.OK)
		for i := range 300 {
			checkWrite(t, d, i, full('a'+byte(n)), api.OK)
		}
	}
	checkStands(t, d, 512, 1800, false)
}

// ordered are writes, some of which are refused wherever the cut is.
func ordered() []write {
	var all []write
	for i, block := range []int{5, 6, 5, 512, 5, 0, 511, 6, -1, 7, 7, 7, 0} {
		bytes := string(full('a' + byte(i)))
		if i == 4 || i == 10 {
			bytes = bytes[1:]
		}
		all = append(all, write{block, bytes})
	}
	return all
}

// P3.3 and P3.4: wherever the cut, the writes ahead of it are there, all of them and no others, and all other blocks are as they were.
func TestInOrder(t *testing.T) {
	for n := range len(ordered()) + 1 {
		d, want := newDisk(t, 512), &told{size: 512, cutAt: noCut}
		for i := range 9 {
			checkWrite(t, d, i, full('A'+byte(i)), want.write(i, full('A'+byte(i))))
		}
		checkCut(t, d, n, want.cut(n))
		for _, w := range ordered() {
			checkWrite(t, d, w.block, []byte(w.bytes), want.write(w.block, []byte(w.bytes)))
		}
		if d.Dead() != (n < 9) {
			t.Errorf("cut behind %d writes of 9: %v", n, d.Dead())
		}
		if !d.Dead() {
			checkAll(t, d, want)
			continue
		}
		checkStands(t, d, 512, 9+n, true)
		again, _ := want.reopen()
		checkAll(t, reopened(t, d), again)
	}
}

// P3.2: what is reopened counts its own writes, has no cut, and can be cut anew, life by life.
func TestLives(t *testing.T) {
	d, want := newDisk(t, 512), &told{size: 512, cutAt: noCut}
	for life := range 20 {
		checkCut(t, d, life%4, want.cut(life%4))
		for n := range 5 {
			b := full(byte(10*life + n))
			checkWrite(t, d, (life+n)%6, b, want.write((life+n)%6, b))
		}
		checkStands(t, d, 512, want.writes(), true)
		d = reopened(t, d)
		want, _ = want.reopen()
		checkAll(t, d, want)
		checkStands(t, d, 512, 0, false)
		// More writes than any cut let through: there is no cut.
		for n := range 10 {
			b := full(byte(200 + n + life))
			checkWrite(t, d, 6+n%3, b, want.write(6+n%3, b))
		}
		checkAll(t, d, want)
	}
}

// P3.2: the dead one stays dead, and its blocks stay, whatever is done to what is reopened: it is reopened as it was, again and again.
func TestDeadStays(t *testing.T) {
	d := newDisk(t, 512)
	checkWrite(t, d, 1, full('a'), api.OK)
	killed(t, d)
	first := reopened(t, d)
	checkWrite(t, first, 1, full('b'), api.OK)
	checkWrite(t, first, 2, full('c'), api.OK)
	checkStands(t, d, 512, 1, true)
	checkRead(t, d, 1, nil, api.ErrDead)
	second := reopened(t, d)
	checkAll(t, second, &told{size: 512, done: []write{{1, string(full('a'))}}, before: 1})
	checkWrite(t, second, 3, full('d'), api.OK)
	killed(t, second)
	checkAll(t, first, &told{size: 512, done: []write{{1, string(full('b'))}, {2, string(full('c'))}}})
	checkRead(t, reopened(t, d), 3, full(0), api.OK)
}

// P3.2: a copy has the blocks, the writes, and the cut with what is left of it, and each goes its own way.
func TestCopy(t *testing.T) {
	d := newDisk(t, 512)
	checkWrite(t, d, 1, full('a'), api.OK)
	free := d.Copy()
	checkCut(t, d, 2, api.OK)
	checkWrite(t, d, 2, full('b'), api.OK)
	cut := d.Copy()
	checkStands(t, cut, 512, 2, false)

	checkWrite(t, d, 3, full('c'), api.OK)
	checkWrite(t, d, 4, full('d'), api.ErrDead)
	dead := d.Copy()
	checkStands(t, dead, 512, 3, true)
	checkRead(t, dead, 1, nil, api.ErrDead)
	checkWrite(t, dead, 1, full('x'), api.ErrDead)

	// The others are neither dead nor cut by it, nor do they see what was written.
	checkAll(t, cut, &told{size: 512, done: []write{{1, string(full('a'))}, {2, string(full('b'))}}})
	checkWrite(t, cut, 4, full('e'), api.OK)
	checkWrite(t, cut, 5, full('f'), api.ErrDead)
	for range 9 {
		checkWrite(t, free, 1, full('g'), api.OK)
	}
	checkStands(t, free, 512, 10, false)

	checkRead(t, reopened(t, d), 3, full('c'), api.OK)
	checkRead(t, reopened(t, dead), 3, full('c'), api.OK)
	checkRead(t, reopened(t, dead), 4, full(0), api.OK)
	checkRead(t, reopened(t, dead), 1, full('a'), api.OK)
	checkRead(t, reopened(t, cut), 3, full(0), api.OK)
	checkRead(t, reopened(t, cut), 4, full('e'), api.OK)
}

// P3.2: a cut of a copy is no cut of what it is a copy of.
func TestCutOfCopy(t *testing.T) {
	d := newDisk(t, 32768)
	c := d.Copy()
	checkCut(t, c, 0, api.OK)
	checkWrite(t, d, 32767, full('a'), api.OK)
	checkWrite(t, c, 32767, full('b'), api.ErrDead)
	checkStands(t, d, 32768, 1, false)
	checkStands(t, c, 32768, 0, true)
	checkRead(t, d, 32767, full('a'), api.OK)
	checkRead(t, reopened(t, c), 32767, full(0), api.OK)
}
