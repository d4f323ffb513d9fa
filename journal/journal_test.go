package journal_test

import (
	"maps"
	"math"
	"slices"
	"testing"

	"bastion/api"
	"bastion/disk"
	"bastion/journal"
)

// notPlain are places at which a disk of n blocks has no plain one: the area's, and none at all.
func notPlain(n int) []int {
	return append(from(1, 121), -1, -121, -122, n, n+1, n+122, math.MinInt, math.MaxInt, 1<<16, 1<<16+200, 1<<32, 1<<32+200, -1<<32)
}

// wrongSizes are bytes that are no block: one has a block's bytes, and more, behind its end.
func wrongSizes() [][]byte {
	return [][]byte{nil, {}, []byte("a"), full('a')[:255], make([]byte, 257), make([]byte, 512)}
}

// wrongGroups are groups of a disk of n blocks that are refused with ErrArg.
func wrongGroups(n int) [][]journal.Write {
	var all [][]journal.Write
	for _, i := range notPlain(n) {
		all = append(all, group('x', i), group('x', 200, 300, i), group('x', i, 200, 0))
	}
	for _, b := range wrongSizes() {
		all = append(all, []journal.Write{{Block: 200, Data: b}}, append(group('x', 200), journal.Write{Block: 0, Data: b}))
	}
	all = append(all, group('x', 0, 0), group('x', 200, 200), group('x', 200, 300, 200), group('x', 122, 0, 200, 122), group('x', n-1, 0, n-1))
	same := group('x', 200)
	all = append(all, append(same, same[0]))
	last := from(300, 120)
	last[119] = 300
	return append(all, group('x', last...))
}

// tooMany are groups that are refused with ErrFull, whatever else is wrong with them.
func tooMany() [][]journal.Write {
	return [][]journal.Write{
		group('x', from(122, 121)...), group('x', from(122, 122)...), group('x', from(122, 255)...),
		group('x', from(122, 256)...), group('x', from(122, 257)...), group('x', from(122, 376)...),
		make([]journal.Write, 121), group('x', from(1, 121)...), group('x', slices.Repeat([]int{200}, 121)...), make([]journal.Write, 70000),
	}
}

// P4.1: the journal of a new disk, of as few blocks as there may be, of as many, and of others.
func TestOpen(t *testing.T) {
	for _, n := range []int{512, 513, 4096, 32768} {
		d := newDisk(t, n)
		j := opened(t, d)
		if j.Disk() != d || d.Writes() != 0 {
			t.Errorf("%d blocks: another disk, or %d writes", n, d.Writes())
		}
		checkAll(t, j, nil)
	}
}

// The table of errors: Open.
func TestOpenRefused(t *testing.T) {
	checkNotOpened(t, nil, api.ErrNil)
	d := newDisk(t, 512)
	j := opened(t, d)
	checkDo(t, j, group('a', 200, 300), api.OK)
	checkNotOpened(t, killed(t, d), api.ErrDead)
	checkNotOpened(t, d.Copy(), api.ErrDead)
}

// P4.1: which blocks are plain; the table of errors: Read, in its order.
func TestRead(t *testing.T) {
	for _, n := range []int{512, 700} {
		d := newDisk(t, n)
		for i := range n {
			if plain(n, i) {
				d.Write(i, group('a', i)[0].Data)
			}
		}
		j := opened(t, d)
		for i := range n {
			if plain(n, i) {
				checkRead(t, j, i, group('a', i)[0].Data, api.OK)
			}
		}
		for _, i := range notPlain(n) {
			checkRead(t, j, i, nil, api.ErrArg)
		}
		killed(t, d)
		for _, i := range append(notPlain(n), 0, 122, 200, n-1) {
			checkRead(t, j, i, nil, api.ErrDead)
			checkRead(t, nil, i, nil, api.ErrNil)
		}
	}
}

// P4.1, P4.3: Raw is one write, and of that block alone.
func TestRaw(t *testing.T) {
	d := newDisk(t, 513)
	j := opened(t, d)
	var want blocks
	for n, i := range []int{200, 0, 122, 512, 200, 511, 0} {
		w := group('a'+byte(n), i)
		checkRaw(t, j, i, w[0].Data, api.OK)
		want = want.with(w...)
		checkAll(t, j, want)
		if d.Writes() != n+1 {
			t.Errorf("%d writes behind %d of Raw", d.Writes(), n+1)
		}
	}
	checkAll(t, opened(t, d), want)
	checkRaw(t, j, 200, full(0), api.OK)
	checkAll(t, j, want.with(journal.Write{Block: 200, Data: full(0)}))
}

// The table of errors: Raw, in its order; what is refused changes nothing.
func TestRawRefused(t *testing.T) {
	d := newDisk(t, 513)
	j := opened(t, d)
	checkRaw(t, j, 200, full('a'), api.OK)
	want := blocks{200: string(full('a'))}
	refused := func(j *journal.Journal, e api.Errno) {
		t.Helper()
		for _, i := range notPlain(513) {
			checkRaw(t, j, i, full('x'), e)
			checkRaw(t, j, i, nil, e)
		}
		for _, b := range wrongSizes() {
			checkRaw(t, j, 200, b, e)
			checkRaw(t, j, 0, b, e)
		}
	}
	refused(nil, api.ErrNil)
	checkRaw(t, nil, 200, full('x'), api.ErrNil)
	refused(j, api.ErrArg)

	// Ahead of the cut, too: nothing is cut by what is no write.
	d.Cut(0)
	refused(j, api.ErrArg)
	checkAll(t, j, want)
	if d.Writes() != 1 || d.Dead() {
		t.Errorf("what is refused was written: %d writes, dead: %v", d.Writes(), d.Dead())
	}
	checkRaw(t, j, 200, full('x'), api.ErrDead)
	if !d.Dead() {
		t.Error("the cut is not met")
	}
	refused(j, api.ErrDead)
	checkRaw(t, j, 200, full('x'), api.ErrDead)
	checkAll(t, opened(t, reopened(t, d)), want)
}

// P4.1, P4.3: groups of each size: the blocks are as they say, all others as they were, and there are not too many writes.
func TestDo(t *testing.T) {
	d := newDisk(t, 512)
	j := opened(t, d)
	var want blocks
	for n := range 121 {
		places := from(122+2*n, n)
		if n > 0 {
			places[n/2], places[n-1] = 0, 511
		}
		slices.Reverse(places)
		l, ahead := group(byte(n), places...), d.Writes()
		checkDo(t, j, l, errorOfDo(512, l))
		want = want.with(l...)
		checkAll(t, j, want)
		if most := 2*n + 2; d.Writes()-ahead > most || n == 0 && d.Writes() != ahead {
			t.Errorf("%d writes of a group of %d", d.Writes()-ahead, n)
		}
	}
	checkAll(t, opened(t, d), want)
	checkAll(t, opened(t, reopened(t, killed(t, d))), want)
}

// P4.1: the greatest disk has each of its blocks, the last ones too.
func TestDoOnGreatDisk(t *testing.T) {
	d := newDisk(t, 32768)
	l := group('a', 32767, 0, 122, 255, 256, 257, 32512, 32511, 4095, 16384)
	checkDo(t, opened(t, d), l, api.OK)
	checkAll(t, opened(t, d), blocks{}.with(l...))
	for cut := range 2*len(l) + 2 {
		c := d.Copy()
		next := group('A', 32767, 32766, 255, 256, 512, 8192, 0)
		j := opened(t, c)
		c.Cut(cut)
		if j.Do(next) != api.OK {
			c = reopened(t, c)
		}
		checkEither(t, opened(t, c), blocks{}.with(l...), blocks{}.with(l...).with(next...))
	}
}

// P4.1: a group that is empty writes nothing, ahead of a cut neither.
func TestDoNothing(t *testing.T) {
	d := newDisk(t, 512)
	j := opened(t, d)
	d.Cut(0)
	checkDo(t, j, nil, api.OK)
	checkDo(t, j, []journal.Write{}, api.OK)
	checkDo(t, j, group('x', 200)[:0], api.OK)
	if d.Writes() != 0 || d.Dead() {
		t.Errorf("%d writes, dead: %v", d.Writes(), d.Dead())
	}
	killed(t, d)
	checkDo(t, j, nil, api.ErrDead)
	checkDo(t, nil, nil, api.ErrNil)
}

// The table of errors: Do, in its order; what is refused changes nothing.
func TestDoRefused(t *testing.T) {
	d := newDisk(t, 513)
	j := opened(t, d)
	l := group('a', 200, 300)
	checkDo(t, j, l, api.OK)
	want, writes := blocks{}.with(l...), d.Writes()
	// Behind a cut of 0 as well: nothing is cut by what is no write.
	for range 2 {
		for _, l := range wrongGroups(513) {
			checkDo(t, nil, l, api.ErrNil)
			checkDo(t, j, l, api.ErrArg)
		}
		for _, l := range tooMany() {
			checkDo(t, nil, l, api.ErrNil)
			checkDo(t, j, l, api.ErrFull)
		}
		checkAll(t, j, want)
		if d.Writes() != writes || d.Dead() {
			t.Errorf("what is refused was written: %d writes, dead: %v", d.Writes()-writes, d.Dead())
		}
		d.Cut(0)
	}
	checkDo(t, j, group('b', 200), api.ErrDead)
	if !d.Dead() {
		t.Error("the cut is not met")
	}
	for _, l := range slices.Concat(wrongGroups(513), tooMany(), [][]journal.Write{l, nil}) {
		checkDo(t, j, l, api.ErrDead)
		checkDo(t, nil, l, api.ErrNil)
	}
	checkAll(t, opened(t, reopened(t, d)), want)
}

// P4.1: what a nil journal answers where it answers no error.
func TestNilJournal(t *testing.T) {
	var j *journal.Journal
	if d := j.Disk(); d != nil {
		t.Errorf("Disk of nil: %v", d)
	}
}

// The chapter's examples.
func TestExamples(t *testing.T) {
	d := newDisk(t, 512)
	j := opened(t, d)
	a, b := full('a'), full('b')
	checkDo(t, j, []journal.Write{{Block: 200, Data: a}, {Block: 300, Data: b}}, api.OK)
	if d.Writes() > 6 {
		t.Errorf("%d writes", d.Writes())
	}
	checkRead(t, j, 200, a, api.OK)
	checkDo(t, j, []journal.Write{{Block: 5, Data: a}}, api.ErrArg)
	checkDo(t, j, []journal.Write{{Block: 0, Data: a}, {Block: 0, Data: b}}, api.ErrArg)
	checkRead(t, j, 121, nil, api.ErrArg)
	checkRead(t, j, 122, full(0), api.OK)
	checkRead(t, j, 0, full(0), api.OK)
	d.Cut(1)
	checkDo(t, j, []journal.Write{{Block: 200, Data: b}, {Block: 300, Data: a}}, api.ErrDead)
	checkAll(t, opened(t, reopened(t, d)), blocks{200: string(a), 300: string(b)})
}

// R1: what did not come out of New and Open makes no call panic.
func TestOtherwiseMade(t *testing.T) {
	checkNotOpened(t, new(disk.Disk), api.ErrArg)
	for _, j := range []*journal.Journal{{}, new(journal.Journal)} {
		for _, i := range append(notPlain(0), 122, 200, 511) {
			j.Read(i)
			j.Raw(i, full('a'))
			j.Raw(i, nil)
			j.Do(group('a', i))
		}
		j.Disk()
		j.Do(nil)
	}
}

// R2 with P4.1: journals of other disks, and of copies, go their own ways; those of one disk are one.
func TestSeveralJournals(t *testing.T) {
	d := newDisk(t, 512)
	first, second, other := opened(t, d), opened(t, d), opened(t, newDisk(t, 512))
	checkDo(t, first, group('a', 200, 300), api.OK)
	copied := opened(t, d.Copy())
	checkDo(t, second, group('b', 300, 400), api.OK)
	checkDo(t, first, group('c', 400, 500), api.OK)
	checkRaw(t, second, 200, full('d'), api.OK)
	want := blocks{}.with(group('a', 200, 300)...).with(group('b', 300, 400)...).with(group('c', 400, 500)...).with(journal.Write{Block: 200, Data: full('d')})
	checkAll(t, first, want)
	checkAll(t, second, want)
	checkAll(t, other, nil)
	checkAll(t, copied, blocks{}.with(group('a', 200, 300)...))
	d.Cut(3)
	checkDo(t, first, group('x', 200, 300, 400), api.ErrDead)
	checkDo(t, second, group('x', 200), api.ErrDead)
	checkDo(t, copied, group('y', 200), api.OK)
	checkEither(t, opened(t, reopened(t, d)), want, want.with(group('x', 200, 300, 400)...))
}

// P4.1 with R3: what is written is not changed, nor read behind its end, nor kept.
func TestWrittenIsNotKept(t *testing.T) {
	d := newDisk(t, 512)
	j := opened(t, d)
	room := slices.Concat(full('a'), full('b'), full('c'))
	l := []journal.Write{{Block: 200, Data: room[:256]}, {Block: 201, Data: room[256:512]}, {Block: 202, Data: room[512:]}, {Block: 5}}
	checkDo(t, j, l[:2], api.OK)
	checkRaw(t, j, 300, room[:256], api.OK)
	if string(room) != string(slices.Concat(full('a'), full('b'), full('c'))) {
		t.Errorf("what was handed in is changed: %q", room)
	}
	for i, w := range l {
		if w.Block != []int{200, 201, 202, 5}[i] || len(w.Data) != []int{256, 256, 256, 0}[i] {
			t.Errorf("what was handed in is changed: %d, %d bytes", w.Block, len(w.Data))
		}
	}
	clear(room)
	clear(l)
	want := blocks{200: string(full('a')), 201: string(full('b')), 300: string(full('a'))}
	checkAll(t, j, want)
	checkAll(t, opened(t, reopened(t, killed(t, d))), want)
}

// P4.1 with R3: what is read is new memory, with all its room.
func TestReadIsApart(t *testing.T) {
	j := opened(t, newDisk(t, 512))
	checkDo(t, j, group('a', 200, 201), api.OK)
	first, _ := j.Read(200)
	second, _ := j.Read(200)
	room := first[:cap(first)]
	for i := range room {
		room[i] = 'x'
	}
	if string(second) != string(group('a', 200)[0].Data) {
		t.Errorf("another answer shows what was written: %q", second)
	}
	checkAll(t, j, blocks{}.with(group('a', 200, 201)...))
	checkRaw(t, j, 200, full('y'), api.OK)
	if string(second) != string(group('a', 200)[0].Data) || string(first) != string(full('x')) {
		t.Errorf("answers show a later write: %q, %q", first, second)
	}
}

// P4.1 with R1: an area that others wrote: it is opened, and nothing of it makes a call panic.
func TestOthersArea(t *testing.T) {
	great := newDisk(t, 32768)
	j := opened(t, great)
	great.Cut(5)
	checkDo(t, j, group('a', 32767, 4000, 512), api.ErrDead)
	great = reopened(t, great)
	fills := map[string]func(i, at int) byte{
		"a greater disk's": func(i, at int) byte {
			b, _ := great.Read(i)
			return b[at]
		},
		"all the same": func(i, at int) byte { return 0xff },
		"ones":         func(i, at int) byte { return 1 },
		"mixed":        func(i, at int) byte { return byte((i*256 + at) * 2654435761 >> 11) },
		"a number":     func(i, at int) byte { return byte(at) },
	}
	for name, fill := range fills {
		t.Run(name, func(t *testing.T) {
			d := newDisk(t, 512)
			for i := 1; i <= 121; i++ {
				b := full(0)
				for at := range b {
					b[at] = fill(i, at)
				}
				d.Write(i, b)
			}
			j := opened(t, d)
			checkDo(t, j, group('a', 200, 300), api.OK)
			checkRaw(t, j, 400, full('b'), api.OK)
			opened(t, d)
		})
	}
}

// P4.1, of an area that others wrote: a group that is not as it was laid any more is not written in part, whichever byte of it is another one.
func TestDamagedArea(t *testing.T) {
	before, behind := group('a', 200, 300, 400), group('A', 300, 400, 500)
	stood, stands := blocks{}.with(before...), blocks{}.with(before...).with(behind...)
	for cut := range 8 {
		d := newDisk(t, 512)
		j := opened(t, d)
		checkDo(t, j, before, api.OK)
		d.Cut(cut)
		checkDo(t, j, behind, api.ErrDead)
		d = reopened(t, d)
		if !maps.Equal(standing(512, d.Read), stood) {
			continue // Where it belongs it stands in part: that can't be undone.
		}
		for _, i := range []int{1, 2, 3, 4, 5, 121} {
			for at := range api.BlockSize {
				c := d.Copy()
				b, _ := c.Read(i)
				b[at] ^= 1 << (at % 8)
				c.Write(i, b)
				checkEither(t, opened(t, c), stood, stands)
			}
		}
	}
}
