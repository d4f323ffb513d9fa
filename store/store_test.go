package store_test

import (
	"fmt"
	"slices"
	"strings"
	"testing"

	"bastion/api"
	"bastion/disk"
	"bastion/journal"
	"bastion/store"
)

// The chapter's examples.
func TestExamples(t *testing.T) {
	b := newBench(t, 512)
	if len(b.Keys("", "")) != 0 || b.Pages() != 195 || b.Room() != 195 {
		t.Errorf("Keys %q, Pages %d, Room %d", b.Keys("", ""), b.Pages(), b.Room())
	}
	b.put(t, "a", "x")
	b.put(t, "b", text(300, 1))
	if b.Room() != 192 {
		t.Errorf("Room: %d", b.Room())
	}
	b.back(t)
	if b.Room() != 195 {
		t.Errorf("Room behind Back: %d", b.Room())
	}
	checkGet(t, b.Store, "a", "", api.ErrNone)
	b.put(t, "b", text(300, 2))
	b.commit(t)
	b.put(t, "b", "x")
	if b.Room() != 192 {
		t.Errorf("Room, where what stands is replaced: %d", b.Room())
	}
	b.commit(t)
	if b.Room() != 195 {
		t.Errorf("Room behind Commit: %d", b.Room())
	}
	check(t, "Put of 50000 bytes", b.Put("c", text(50000, 3)), api.ErrFull)
	b.checkAll(t)
}

// P9.1: a blank disk of each size has a store without values; Open writes nothing to it.
func TestOpenBlank(t *testing.T) {
	for _, size := range []int{512, 513, 514, 4096, 32767, 32768} {
		b := newBench(t, size)
		b.checkAll(t)
		if b.d.Writes() != 0 || b.Pages() != (size-122)/2 || b.Room() != (size-121)/2 {
			t.Errorf("%d blocks: %d writes, Pages %d, Room %d", size, b.d.Writes(), b.Pages(), b.Room())
		}
		b.put(t, "a", "x")
		b.put(t, "b", text(300, 1))
		b.commit(t)
		b.anew(t)
		b.checkAll(t)
	}
}

// P9.1: keys of each length that there may be, and of the next one, of any bytes.
func TestKeysOfEachLength(t *testing.T) {
	b := newBench(t, 900)
	for size := range 34 {
		for _, c := range []string{"\x00", "a", "\xff"} {
			b.put(t, strings.Repeat(c, size), text(size, size))
		}
	}
	b.checkAll(t)
	b.commit(t)
	b.checkAll(t)
	b.anew(t)
	b.checkAll(t)
	for _, key := range []string{"", strings.Repeat("a", 33), strings.Repeat("\xff", 5000)} {
		checkGet(t, b.Store, key, "", api.ErrNone)
		b.del(t, key)
	}
	b.checkAll(t)
}

// P9.1: values of all sizes beside those where another thing is done with them.
func TestValuesOfEachSize(t *testing.T) {
	b := newBench(t, 20000)
	sizes := []int{0, 1, 2, 62, 63, 64, 65, 66, 255, 256, 257, 30720, 30721, 100000, 131071, 131072}
	for no, n := range sizes {
		room := b.Room()
		key := fmt.Sprintf("k%d", no)
		if e := b.put(t, key, text(n, no)); e != api.OK {
			t.Errorf("Put of %d bytes: %d", n, int(e))
		}
		if n <= 63 && b.Room() != room || n == 64 && b.Room() != room-2 {
			t.Errorf("Put of %d bytes: Room %d; it was %d", n, b.Room(), room)
		}
	}
	b.checkAll(t)
	for _, n := range []int{131073, 131074, 1 << 20} {
		if e := b.put(t, "more", text(n, 1)); e != api.ErrArg {
			t.Errorf("Put of %d bytes: %d", n, int(e))
		}
	}
	b.commit(t)
	b.checkAll(t)
	b.anew(t)
	for no := range sizes {
		b.del(t, fmt.Sprintf("k%d", no))
	}
	b.commit(t)
	b.checkAll(t)
	if b.Pages() != 9939 || b.Room() != 9939 {
		t.Errorf("Pages %d, Room %d, without values", b.Pages(), b.Room())
	}
}

// P9.1: short values, whatever their bytes are, are no long ones, nor the other way about.
func TestValuesOfAnyBytes(t *testing.T) {
	b := newBench(t, 900)
	for no, part := range []string{"\x00", "\x01", "\x01\x00", "\x01\x02", "\x02", "\x3f", "\x40", "\xff", "\x80", "a"} {
		for _, n := range []int{1, 2, 3, 5, 63, 64, 256, 700} {
			b.put(t, fmt.Sprintf("%d %d", no, n), strings.Repeat(part, n)[:n])
		}
	}
	b.checkAll(t)
	b.commit(t)
	b.anew(t)
	b.checkAll(t)
}

// P9.1: what is below the empty key, above all keys, and between any two ends; in an act, and of what stands.
func TestKeys(t *testing.T) {
	b := newBench(t, 700)
	ends := []string{"", "\x00", "0", "00", "1", "10", "100", "1000", "101", "2", "298", "299", "\xff", strings.Repeat("\xff", 40)}
	checkEnds := func() {
		t.Helper()
		for _, from := range ends {
			for _, to := range ends {
				if l := b.Keys(from, to); !slices.Equal(l, b.w.keys(from, to)) {
					t.Errorf("Keys(%q, %q): %q; want %q", from, to, l, b.w.keys(from, to))
				}
			}
		}
	}
	checkEnds()
	for i := range 100 {
		b.put(t, fmt.Sprint(3*i), text(i%90, i))
	}
	checkEnds()
	b.commit(t)
	for i := range 50 {
		b.del(t, fmt.Sprint(6*i))
		b.put(t, fmt.Sprint(5*i), "")
	}
	checkEnds()
	b.back(t)
	checkEnds()
}

// P9.1: a value in the place of another one: short and long ones, of what stands, and of the act.
func TestReplaced(t *testing.T) {
	sizes := []int{0, 5, 63, 64, 300, 1000}
	for _, first := range sizes {
		for _, second := range sizes {
			for _, third := range sizes {
				b := newBench(t, 512)
				b.put(t, "k", text(first, 1))
				b.put(t, "other", text(500, 9))
				b.commit(t)
				b.put(t, "k", text(second, 2))
				b.checkAll(t)
				b.put(t, "k", text(third, 3))
				b.checkAll(t)
				c := b.copied(t)
				b.commit(t)
				b.checkAll(t)
				c.put(t, "k", text(third, 3))
				c.del(t, "k")
				c.checkAll(t)
				c.back(t)
				c.checkAll(t)
			}
		}
	}
}

// P9.2: what is undone is so wholly, also where the blocks of what was put have been taken again in the act; then the next act begins.
func TestBack(t *testing.T) {
	b := newBench(t, 512)
	b.put(t, "a", text(300, 1))
	b.put(t, "b", "short")
	b.commit(t)
	for round := range 3 {
		b.put(t, "c", text(700, round))
		b.del(t, "c")
		b.put(t, "d", text(600, round))
		b.put(t, "d", text(500, round))
		b.del(t, "a")
		b.put(t, "a", text(900, round))
		b.del(t, "b")
		b.checkAll(t)
		b.back(t)
		b.checkAll(t)
		b.back(t)
		b.checkAll(t)
	}
	b.put(t, "e", text(700, 7))
	b.commit(t)
	b.back(t)
	b.checkAll(t)
	b.del(t, "e")
	b.commit(t)
	b.back(t)
	b.checkAll(t)
}

// P9.2: what frees its blocks at once, and what when the act is committed.
func TestFreed(t *testing.T) {
	b := newBench(t, 512)
	full := text(49408, 1) // it takes all long blocks
	b.put(t, "a", full)
	if b.Room() != 0 {
		t.Fatalf("Room: %d", b.Room())
	}
	for _, n := range []int{64, 300, 49408, 49409} {
		if e := b.put(t, "a", text(n, 2)); e != api.ErrFull { // it would be replaced only behind this
			t.Errorf("Put of %d bytes, where there is no room: %d", n, int(e))
		}
	}
	b.del(t, "a")
	b.put(t, "a", full)
	b.put(t, "a", "short")
	b.put(t, "b", full)
	b.commit(t)
	b.checkAll(t)
	b.put(t, "b", "short, too")
	if e := b.put(t, "c", text(64, 3)); e != api.ErrFull {
		t.Errorf("Put on the blocks of what stands: %d", int(e))
	}
	b.del(t, "b")
	b.checkAll(t)
	b.commit(t)
	if e := b.put(t, "c", full); e != api.OK {
		t.Errorf("Put on what is free behind Commit: %d", int(e))
	}
	b.checkAll(t)
}

// P9.2: an act that has changed nothing writes nothing, and ends as another one does.
func TestCommitOfNothing(t *testing.T) {
	acts := []func(b *bench){
		func(b *bench) {},
		func(b *bench) { b.put(t, "a", "x") },
		func(b *bench) { b.put(t, "c", "x"); b.del(t, "c") },
		func(b *bench) { b.del(t, "a"); b.put(t, "a", "x") },
		func(b *bench) { b.put(t, "a", "y"); b.back(t) },
		func(b *bench) { b.put(t, "c", text(700, 1)); b.back(t) },
		func(b *bench) { b.del(t, "b"); b.del(t, "a"); b.back(t) },
		func(b *bench) { b.Put("", "x"); b.Del("none"); b.Put("c", text(60000, 1)) },
	}
	for no, act := range acts {
		b := newBench(t, 512)
		if no == 0 {
			b.d.Cut(0)
			b.commit(t)
			b.d.Cut(1000)
		}
		b.put(t, "a", "x")
		b.put(t, "b", text(300, 1))
		b.commit(t)
		act(b)
		writes := b.d.Writes()
		b.d.Cut(0)
		b.commit(t)
		if b.d.Writes() != writes || b.d.Dead() {
			t.Errorf("act %d: %d writes, dead: %v", no, b.d.Writes()-writes, b.d.Dead())
		}
		b.checkAll(t)
	}
	b := newBench(t, 512)
	b.put(t, "a", "x")
	b.del(t, "a")
	b.put(t, "b", text(300, 1))
	b.del(t, "b")
	writes := b.d.Writes()
	b.commit(t)
	if b.d.Writes() != writes || b.Room() != 195 {
		t.Errorf("%d writes, Room %d", b.d.Writes()-writes, b.Room())
	}
}

// P9.2, P9.5: a Put writes to free long blocks alone, one write each; a Commit to the header, the journal and pages alone, as one group; all else writes nothing.
func TestWritten(t *testing.T) {
	b := newBench(t, 600)
	for round := range 30 {
		before := b.Parts()
		for no, n := range []int{10, 300, 2000, 64} {
			free, writes := b.Parts().FreeLong, b.d.Writes()
			key := fmt.Sprint(round*no%7, " ", no)
			l := changed(t, b.d, func() { b.put(t, key, text(n, round)) })
			if slices.ContainsFunc(l, func(i int) bool { return !slices.Contains(free, i) }) || b.d.Writes()-writes > needed(text(n, 1)) {
				t.Errorf("Put of %d bytes: %d writes, to %v; free were %v", n, b.d.Writes()-writes, l, free)
			}
		}
		writes := b.d.Writes()
		l := changed(t, b.d, func() { b.del(t, fmt.Sprint(round%7, " 1")); b.Get("0 0"); b.Keys("", ""); b.Parts() })
		if len(l) > 0 || b.d.Writes() != writes {
			t.Errorf("Del, Get: %d writes, to %v", b.d.Writes()-writes, l)
		}
		if round%3 == 2 {
			l = changed(t, b.d, func() { b.back(t) })
			if len(l) > 0 || b.d.Writes() != writes {
				t.Errorf("Back: %d writes, to %v", b.d.Writes()-writes, l)
			}
			checkSameParts(t, b.Parts(), before)
			continue
		}
		pages := b.Parts().Pages
		l = changed(t, b.d, func() { b.commit(t) })
		l = slices.DeleteFunc(l, func(i int) bool { return i <= 121 || slices.Contains(pages, i) })
		if len(l) > 0 || b.d.Writes()-writes > 2*(len(pages)+1)+2 {
			t.Errorf("Commit: %d writes, also to %v; pages are %v", b.d.Writes()-writes, l, pages)
		}
	}
}

// The table of errors: Open, in its order.
func TestOpenRefused(t *testing.T) {
	checkNotOpened(t, nil, api.ErrNil)
	bad := newDisk(t, 512)
	bad.Write(0, []byte(strings.Repeat("x", 256)))
	checkNotOpened(t, bad, api.ErrForm)
	bad.Cut(0)
	checkNotOpened(t, bad, api.ErrForm) // no write, so no cut
	checkNotOpened(t, killed(t, bad), api.ErrDead)
	checkNotOpened(t, killed(t, newDisk(t, 512)), api.ErrDead)
	// A group that counts is written when the disk is opened: it brings what is no header.
	d := newDisk(t, 512)
	j, _ := journal.Open(d)
	d.Cut(3)
	check(t, "a group that is cut", j.Do(group('x', 0, 122)), api.ErrDead)
	for n := range 3 {
		d = reopened(t, d)
		d.Cut(n)
		checkNotOpened(t, d, api.ErrDead)
		if !d.Dead() {
			t.Fatalf("an Open with a cut of %d: the disk is not dead", n)
		}
	}
	checkNotOpened(t, reopened(t, d), api.ErrForm)
}

// The table of errors: what a nil store answers, and one whose disk is dead, whatever they are handed.
func TestRefusedInOrder(t *testing.T) {
	checkRefused(t, nil, api.ErrNil)
	checkRefused(t, new(store.Store), api.ErrNil)
	b := newBench(t, 512)
	b.put(t, "a", "x")
	b.put(t, "b", text(300, 1))
	b.commit(t)
	b.put(t, "c", text(500, 1))
	b.put(t, "b", "y")
	killed(t, b.d)
	checkRefused(t, b.Store, api.ErrDead)
	checkParts(t, b.Store, b.w)
	if l := b.Keys("", ""); !slices.Equal(l, []string{"a", "b", "c"}) {
		t.Errorf("Keys, of a dead disk: %q", l)
	}
	b.anew(t)
	b.checkAll(t)
}

// P9.1 of nil: none, and 0.
func TestNil(t *testing.T) {
	for _, s := range []*store.Store{nil, new(store.Store)} {
		p := s.Parts()
		if len(s.Keys("", "")) != 0 || s.Pages() != 0 || s.Room() != 0 || len(p.Pages)+len(p.FreePages)+len(p.Long)+len(p.FreeLong) != 0 {
			t.Errorf("Keys %q, Pages %d, Room %d, Parts %v", s.Keys("", ""), s.Pages(), s.Room(), p)
		}
	}
}

// The table of errors: Put, each of two errors ahead of the next; what is refused changes nothing, and meets no cut.
func TestPutErrors(t *testing.T) {
	b := newBench(t, 512)
	for i := 0; b.Pages() >= 16; i++ {
		b.put(t, fmt.Sprintf("%03d%s", i, strings.Repeat("k", 29)), text(63, i))
		if i%50 == 49 {
			b.commit(t)
		}
	}
	b.commit(t)
	long, wide := strings.Repeat("k", 33), text(131073, 1)
	for _, c := range []struct {
		key, data string
		want      api.Errno
	}{
		{"", wide, api.ErrArg}, {"", "x", api.ErrArg}, {"", text(60000, 1), api.ErrArg}, {long, "x", api.ErrArg}, {long, wide, api.ErrArg}, {"a", wide, api.ErrArg},
		{"a", "x", api.ErrFull}, {"a", text(300, 1), api.ErrFull}, {"a", text(60000, 1), api.ErrFull}, {b.w.keys("", "")[0], "", api.ErrFull}, {"a", text(131072, 1), api.ErrFull},
	} {
		b.d.Cut(0)
		check(t, fmt.Sprintf("Put of %.40q, %d bytes", c.key, len(c.data)), b.Put(c.key, c.data), c.want)
		b.d.Cut(1 << 40)
		checkParts(t, b.Store, b.w)
	}
	b.checkAll(t)
	// Fewer long blocks are free than it needs.
	b = newBench(t, 512)
	b.put(t, "a", text(49000, 1))
	b.d.Cut(0)
	for _, n := range []int{600, 2000, 131072} {
		check(t, fmt.Sprintf("Put of %d bytes", n), b.Put("b", text(n, 1)), b.w.copy().put("b", text(n, 1), 190))
	}
	check(t, "Put of 63 bytes", b.Put("c", text(63, 1)), b.w.put("c", text(63, 1), 190))
	b.d.Cut(1 << 40)
	b.checkAll(t)
}

// P9.5: a long value for which there are just as many blocks as it needs, and one block fewer.
func TestExactRoom(t *testing.T) {
	for _, c := range []struct {
		held, n int
		want    api.Errno
	}{
		{0, 49408, api.OK}, {0, 49409, api.ErrFull}, {300, 48640, api.OK}, {300, 48641, api.ErrFull},
		{48640, 256, api.OK}, {48640, 257, api.OK}, {48640, 513, api.ErrFull}, {48896, 256, api.OK}, {48896, 257, api.ErrFull}, {49152, 64, api.ErrFull}, {49152, 63, api.OK},
	} {
		b := newBench(t, 512)
		if c.held > 0 {
			b.put(t, "held", text(c.held, 1))
		}
		b.commit(t)
		if e := b.put(t, "k", text(c.n, 2)); e != c.want {
			t.Errorf("Put of %d bytes, beside %d: %d; want %d", c.n, c.held, int(e), int(c.want))
		}
		b.checkAll(t)
		b.commit(t)
		b.checkAll(t)
	}
}

// R3: what is handed out is new memory, with all its room.
func TestAnswersAreApart(t *testing.T) {
	b := newBench(t, 512)
	for i := range 40 {
		b.put(t, fmt.Sprint(i), text(10*i, i))
	}
	b.commit(t)
	for range 2 {
		p, l := b.Parts(), b.Keys("", "")
		for _, part := range [][]int{p.Pages, p.FreePages, p.Long, p.FreeLong} {
			part = part[:cap(part)]
			for i := range part {
				part[i] = -7
			}
		}
		l = l[:cap(l)]
		for i := range l {
			l[i] = "spoilt"
		}
		checkSameParts(t, b.Parts(), b.stands)
		b.stands = b.Parts()
		b.checkAll(t)
	}
}

// R3: the lists of one answer share no memory: what is written to one, and to the room behind its end, is seen in no other one.
func TestListsOfPartsAreApart(t *testing.T) {
	b := newBench(t, 512)
	b.put(t, "a", text(3000, 1))
	lists := func() [][]int {
		p := b.Parts()
		return [][]int{p.Pages, p.FreePages, p.Long, p.FreeLong}
	}
	for no := range 4 {
		all, want := lists(), lists()
		for i := range cap(all[no]) {
			all[no][:cap(all[no])][i] = -7
		}
		for other, l := range all {
			if other != no && !slices.Equal(l, want[other]) {
				t.Errorf("the list %d shows what was written to the list %d", other, no)
			}
		}
	}
}

// R1: stores and disks that were made otherwise make no call panic.
func TestMadeOtherwise(t *testing.T) {
	if s, e := store.Open(new(disk.Disk)); s != nil || e == api.OK {
		t.Errorf("Open of a disk of nothing: %v, %d", s != nil, int(e))
	}
	b := newBench(t, 512)
	y := *b.Store
	for i := range 200 {
		key := fmt.Sprint("key ", i%17)
		b.Store.Put(key, text(i%5*100, i))
		if i%7 == 0 {
			y = *b.Store
		}
		y.Get(key)
		y.Put(fmt.Sprint("key ", i%11), text(i%3*100, i))
		y.Del(fmt.Sprint("key ", i%13))
		switch i % 5 {
		case 0:
			b.Store.Commit()
		case 1:
			y.Back()
		case 2:
			y.Commit()
		case 3:
			b.Store.Back()
		}
		y.Keys("", "")
		y.Parts()
		store.Open(b.d)
	}
}
