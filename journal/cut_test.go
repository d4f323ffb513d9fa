package journal_test

import (
	"fmt"
	"testing"

	"bastion/api"
	"bastion/disk"
	"bastion/journal"
)

// used is a disk whose journal was used, and what is told of it.
func used(t *testing.T) (*disk.Disk, blocks) {
	t.Helper()
	d := newDisk(t, 512)
	j := opened(t, d)
	first := group('a', from(190, 30)...)
	checkDo(t, j, first, api.OK)
	raw := group('r', 0, 205, 511)
	for _, w := range raw {
		checkRaw(t, j, w.Block, w.Data, api.OK)
	}
	return d, blocks{}.with(first...).with(raw...)
}

// cutGroups are groups that are cut behind each of their writes.
func cutGroups() [][]journal.Write {
	return [][]journal.Write{
		group('A', 200), group('A', 0), group('A', 511, 0), group('A', 0, 205, 122), group('A', 210, 200, 300, 199, 511, 0, 400),
		{{Block: 200, Data: full(0)}, {Block: 205, Data: full(0)}, {Block: 0, Data: full(0xff)}},
	}
}

// doneOrCut does a group on d, which is cut behind n writes: what d comes to, and what may stand on it.
func doneOrCut(t *testing.T, d *disk.Disk, n int, l []journal.Write, before blocks) (*disk.Disk, []blocks) {
	t.Helper()
	j, writes := opened(t, d), d.Writes()
	d.Cut(n)
	e := j.Do(l)
	behind := before.with(l...)
	if e == api.OK {
		if n < d.Writes()-writes || d.Dead() {
			t.Errorf("Do of %d writes, with a cut of %d: OK", len(l), n)
		}
		checkAll(t, j, behind)
		return d.Copy(), []blocks{behind}
	}
	if e != api.ErrDead || !d.Dead() || n >= 2*len(l)+2 {
		t.Errorf("Do of %d writes, with a cut of %d: %d, dead: %v", len(l), n, int(e), d.Dead())
	}
	checkRead(t, j, 200, nil, api.ErrDead)
	checkRaw(t, j, 200, full('x'), api.ErrDead)
	checkDo(t, j, l, api.ErrDead)
	return reopened(t, d), []blocks{before, behind}
}

// checkOneOf is the one of the tellings that j's blocks are just as.
func checkOneOf(t *testing.T, j *journal.Journal, may []blocks) blocks {
	t.Helper()
	return checkEither(t, j, may[0], may[len(may)-1])
}

// openedOrCut opens d, which is cut behind n writes in life after life, till it goes well or there were enough lives.
func openedOrCut(t *testing.T, d *disk.Disk, n, lives int) *disk.Disk {
	t.Helper()
	for range lives {
		d.Cut(n)
		j, e := journal.Open(d)
		if e == api.OK {
			if j == nil || d.Dead() {
				t.Errorf("Open with a cut of %d: %v, dead: %v", n, j, d.Dead())
			}
			return d.Copy()
		}
		if j != nil || e != api.ErrDead || !d.Dead() {
			t.Errorf("Open with a cut of %d: %v, %d, dead: %v", n, j, int(e), d.Dead())
		}
		d = reopened(t, d)
	}
	return d
}

// noCut is a cut that is not met any more.
const noCut = 1 << 40

// P4.2, P4.3: a cut behind each number of writes of a group; then, behind each number of writes of the Open that follows, once and again; then a group that follows, which is cut too.
func TestCutAnywhere(t *testing.T) {
	for no, l := range cutGroups() {
		t.Run(fmt.Sprint(no), func(t *testing.T) {
			base, before := used(t)
			for n := range 2*len(l) + 4 {
				d, may := doneOrCut(t, base.Copy(), n, l, before)
				stands := checkOneOf(t, opened(t, d.Copy()), may)
				for m := range len(l) + 4 {
					for _, lives := range []int{1, 3} {
						c := openedOrCut(t, d.Copy(), m, lives)
						c.Cut(noCut)
						checkAll(t, opened(t, c), stands)
						checkFollowed(t, c, stands)
					}
				}
			}
		})
	}
}

// checkFollowed cuts a group on d, whose blocks are told, behind each number of its writes, and tells where what is read then is neither that nor what is behind the group.
func checkFollowed(t *testing.T, d *disk.Disk, before blocks) {
	t.Helper()
	l := group('U', 205, 300)
	for n := range 7 {
		c, may := doneOrCut(t, d.Copy(), n, l, before)
		checkOneOf(t, opened(t, c), may)
	}
}

// P4.2: the greatest group, cut behind each number of its writes, and behind each of the Open that follows.
func TestCutOfGreatestGroup(t *testing.T) {
	base, before := used(t)
	l := group('A', append(from(150, 118), 0, 511)...)
	for n := 0; n <= 242; n++ {
		d, may := doneOrCut(t, base.Copy(), n, l, before)
		stands := checkOneOf(t, opened(t, d.Copy()), may)
		for m := n % 7; m < 125; m += 7 {
			c := openedOrCut(t, d.Copy(), m, 1)
			c.Cut(noCut)
			checkAll(t, opened(t, c), stands)
		}
	}
}

// P4.2: a greater group that was cut leaves nothing behind that a smaller one, cut as well, brings back; nor the other way about.
func TestCutGroupsOfOtherSizes(t *testing.T) {
	sizes := []int{1, 2, 5, 9}
	for _, first := range sizes {
		for _, second := range sizes {
			for n := range 2*first + 3 {
				base, before := used(t)
				d, may := doneOrCut(t, base, n, group('A', from(200, first)...), before)
				d.Cut(noCut)
				stands := checkOneOf(t, opened(t, d), may)
				for m := range 2*second + 3 {
					c, may := doneOrCut(t, d.Copy(), m, group('U', from(203, second)...), stands)
					checkOneOf(t, opened(t, c), may)
				}
			}
		}
	}
}

// P4.2: the same group again, wherever the first one was cut: it is not taken for the other one.
func TestSameGroupAgain(t *testing.T) {
	l := group('A', 200, 205, 300)
	for n := range 10 {
		base, before := used(t)
		d, _ := doneOrCut(t, base, n, l, before)
		d.Cut(noCut)
		j := opened(t, d)
		checkDo(t, j, l, api.OK)
		raw := group('R', 205, 300)
		for _, w := range raw {
			checkRaw(t, j, w.Block, w.Data, api.OK)
		}
		for m := range 10 {
			c, may := doneOrCut(t, d.Copy(), m, l, before.with(l...).with(raw...))
			checkOneOf(t, opened(t, c), may)
		}
	}
}

// P4.2: what Raw wrote, ahead of a group, behind it, or behind the Open that wrote it to its end, is there, whatever was cut; what it did not write is not.
func TestRawAndCuts(t *testing.T) {
	l := group('A', 200, 205, 300)
	raw := group('R', 205, 300, 450)
	for n := range 10 {
		base, before := used(t)
		d, may := doneOrCut(t, base, n, l, before)
		d.Cut(noCut)
		j := opened(t, d)
		want := checkOneOf(t, j, may)
		for _, w := range raw {
			checkRaw(t, j, w.Block, w.Data, api.OK)
			want = want.with(w)
			checkAll(t, opened(t, d.Copy()), want)
			checkAll(t, opened(t, reopened(t, killed(t, d.Copy()))), want)
		}
		d.Cut(1)
		checkRaw(t, j, 200, full('S'), api.OK)
		checkRaw(t, j, 205, full('T'), api.ErrDead)
		checkRaw(t, j, 210, full('T'), api.ErrDead)
		checkAll(t, opened(t, reopened(t, d)), want.with(journal.Write{Block: 200, Data: full('S')}))
	}
}

// P4.4: to open twice is to open once, wherever a group was cut: the second time nothing is written.
func TestOpenTwice(t *testing.T) {
	for no, l := range cutGroups() {
		for n := range 2*len(l) + 4 {
			base, before := used(t)
			d, may := doneOrCut(t, base, n, l, before)
			d.Cut(noCut)
			stands := checkOneOf(t, opened(t, d), may)
			writes := d.Writes()
			for range 3 {
				checkAll(t, opened(t, d), stands)
			}
			if d.Writes() != writes {
				t.Errorf("group %d, cut behind %d: %d writes of a later Open", no, n, d.Writes()-writes)
			}
			d.Cut(0)
			checkAll(t, opened(t, d), stands)
		}
	}
}
