package store_test

import (
	"bytes"
	"fmt"
	"slices"
	"strings"
	"testing"

	"bastion/api"
	"bastion/blob"
	"bastion/disk"
	"bastion/freemap"
	"bastion/journal"
	"bastion/node"
	"bastion/tree"
)

// spoil writes b to a block of d, whatever it is.
func spoil(t *testing.T, d *disk.Disk, i int, b []byte) {
	t.Helper()
	if e := d.Write(i, b); e != api.OK {
		t.Fatalf("Write(%d): %d", i, int(e))
	}
}

// P9.1: a header that is none, with any byte that is not 0, on a blank disk, and on one with a store.
func TestHeaderOfNone(t *testing.T) {
	for i := range 256 {
		for _, c := range []byte{1, 'b', 0x80, 0xff} {
			b := make([]byte, 256)
			b[i] = c
			d := newDisk(t, 512)
			spoil(t, d, 0, b)
			checkNotOpened(t, d, api.ErrForm)
		}
	}
	b := used(t)
	for _, part := range []string{"x", "\xff", "\x01", "\x00\x01", "bastion", "bastion store"} {
		d := b.d.Copy()
		spoil(t, d, 0, []byte(strings.Repeat(part, 256)[:256]))
		writes := d.Writes()
		checkNotOpened(t, d, api.ErrForm)
		if d.Writes() != writes {
			t.Errorf("%d writes of an Open that is refused", d.Writes()-writes)
		}
	}
}

// P9.1: a header of which a byte is another one, beside the root's, or whose root is no page: it is none.
func TestHeaderSpoilt(t *testing.T) {
	b := used(t)
	was := image(t, b.d)[0]
	root := bytes.LastIndexFunc(was, func(c rune) bool { return c != 0 })
	for i := range 256 {
		for _, with := range []byte{0x01, 0x80, 0xff} {
			if i == root && with == 0x01 { // another root may well be that of another tree
				continue
			}
			d := b.d.Copy()
			spoilt := slices.Clone(was)
			spoilt[i] ^= with
			spoil(t, d, 0, spoilt)
			checkNotOpened(t, d, api.ErrForm)
		}
	}
	for _, behind := range []string{"\xc4\x01", "\xff\x01", "\x80\x80\x02", "\x81\x80\x02", "\xff\xff\xff\xff\x07", "\xff\xff\xff\xff\xff\xff\xff\xff\xff\x01"} {
		d := b.d.Copy()
		spoilt := slices.Clone(was)
		copy(spoilt[root:], behind)
		spoil(t, d, 0, spoilt)
		checkNotOpened(t, d, api.ErrForm)
	}
}

// P9.1: a store's blocks on a disk of another size are no store.
func TestOtherSize(t *testing.T) {
	b := newBench(t, 512)
	b.put(t, "a", "x")
	b.commit(t)
	all := image(t, b.d)
	for _, size := range []int{513, 514, 600, 4096} {
		d := newDisk(t, size)
		for i, block := range all {
			spoil(t, d, i, block)
		}
		checkNotOpened(t, d, api.ErrForm)
	}
	d := newDisk(t, 512)
	for i, block := range all {
		spoil(t, d, i, block)
	}
	checkStore(t, opened(t, d), b.w)
}

// P9.1: a store whose pages, or long blocks, hold what is none of theirs; what is free may hold anything.
func TestPartsSpoilt(t *testing.T) {
	b, _ := many(t)
	b.put(t, "long", text(40000, 1))
	b.put(t, "longer", text(300, 2))
	b.commit(t)
	p := b.Parts()
	if len(p.Pages) < 10 || len(p.Long) < 150 {
		t.Fatalf("%d pages, %d long blocks", len(p.Pages), len(p.Long))
	}
	for _, i := range slices.Concat(p.Pages, p.Long) {
		for _, with := range []string{"x", "\xff", "\x02"} {
			d := b.d.Copy()
			spoil(t, d, i, []byte(strings.Repeat(with, 256)))
			checkNotOpened(t, d, api.ErrForm)
		}
	}
	for _, i := range p.Long {
		d := b.d.Copy()
		block := slices.Clone(image(t, d)[i])
		block[200] ^= 1
		spoil(t, d, i, block)
		checkNotOpened(t, d, api.ErrForm)
	}
	for no, with := range []string{"x", "\xff", "\x00", "\x01\x00"} {
		d := b.d.Copy()
		for _, i := range slices.Concat(p.FreePages, p.FreeLong) {
			spoil(t, d, i, []byte(strings.Repeat(with, 256)[:256]))
		}
		c := benchOn(t, d, b.w.copy())
		c.checkAll(t)
		for i := range 30 {
			c.put(t, fmt.Sprint("new", i), text(20*i, no))
		}
		c.commit(t)
		c.anew(t)
		c.checkAll(t)
	}
}

// forged is a disk with a header of a root on the page 0, which has these pairs, and long values at their ids.
func forged(t *testing.T, values []string, pairs ...tree.Pair) *disk.Disk {
	t.Helper()
	b := newBench(t, 4000)
	b.put(t, "a", "x")
	b.commit(t)
	x, _ := tree.New(1939)
	for _, p := range pairs {
		check(t, "Put of a pair", x.Put(p.Key, p.Value), api.OK)
	}
	if x.Root() != 0 {
		t.Fatalf("the root is %d", x.Root())
	}
	for _, p := range x.Dirty() {
		spoil(t, b.d, 122+p.No, p.Data)
	}
	j, _ := journal.Open(b.d)
	free, _ := freemap.New(1939)
	desk, e := blob.Open(j, 2061, free)
	if e != api.OK {
		t.Fatalf("blob.Open: %d", int(e))
	}
	for _, data := range values {
		if _, e := desk.Put(data); e != api.OK {
			t.Fatalf("blob.Put of %d bytes: %d", len(data), int(e))
		}
	}
	return b.d
}

// P9.1: trees that are whole, but have what is behind no store's key: no short value, nor a long one that stands, is as long as it must be, and is behind no other key.
func TestEntriesOfNone(t *testing.T) {
	first, second := tree.Pair{Key: "a", Value: "\x01\x00"}, tree.Pair{Key: "b", Value: "\x00x"}
	long := []string{text(300, 1), text(64, 2)}
	w := newTold(4000)
	w.stands = map[string]string{"a": text(300, 1), "b": "x", "c": text(64, 2)}
	w.back()
	checkStore(t, opened(t, forged(t, long, first, second, tree.Pair{Key: "c", Value: "\x01\x03"})), w)
	for _, value := range []string{"", "\x01", "\x02", "\x02\x03", "\xff", "x", "\x01\x80", "\x01\x83\x00", "\x01\x03\x00", "\x01\xff\xff\xff\x7f", "\x01\x04", "\x01\x05", "\x01\x00", "\x01\x01", "\x01\x93\x0f", "\x01\x80\x80\x02", "\x01\x81\x80\x02", strings.Repeat("\x01", 64)} {
		checkNotOpened(t, forged(t, long, first, second, tree.Pair{Key: "c", Value: value}), api.ErrForm)
	}
	for _, c := range []struct {
		size int
		want api.Errno
	}{{0, api.ErrForm}, {63, api.ErrForm}, {64, api.OK}, {131072, api.OK}, {131073, api.ErrForm}} {
		d := forged(t, []string{text(c.size, 1)}, first)
		if c.want != api.OK {
			checkNotOpened(t, d, c.want)
			continue
		}
		checkGet(t, opened(t, d), "a", text(c.size, 1), api.OK)
	}
}

// P9.1: pages that are nodes, but no tree.
func TestPagesOfNoTree(t *testing.T) {
	for no, n := range []node.Node{
		{Leaf: true}, {Kids: []int{0}}, {Kids: []int{1}}, {Kids: []int{1939}}, {Kids: []int{32768}},
	} {
		d := forged(t, nil, tree.Pair{Key: "a", Value: "\x00"})
		block, e := node.Encode(n)
		if e != api.OK {
			t.Fatalf("node %d: %d", no, int(e))
		}
		spoil(t, d, 122, block)
		checkNotOpened(t, d, api.ErrForm)
	}
}

// P9.1, P9.2: a store from which all has gone lies on its disk as any other.
func TestEmptied(t *testing.T) {
	b := used(t)
	for _, key := range b.w.keys("", "") {
		b.del(t, key)
	}
	b.checkAll(t)
	b.commit(t)
	b.checkAll(t)
	if b.Pages() != 195 || b.Room() != 195 {
		t.Errorf("Pages %d, Room %d", b.Pages(), b.Room())
	}
	b.anew(t)
	b.put(t, "a", "x")
	b.put(t, "b", text(300, 1))
	b.commit(t)
	b.anew(t)
	b.checkAll(t)
}

// P9.1: an area that others wrote does not matter: what is no group is left where it is.
func TestAreaOfOthers(t *testing.T) {
	d := newDisk(t, 512)
	for i := 1; i <= 121; i++ {
		spoil(t, d, i, []byte(strings.Repeat("x", 256)))
	}
	b := benchOn(t, d, newTold(512))
	b.put(t, "a", text(300, 1))
	b.commit(t)
	b.anew(t)
	b.checkAll(t)
}
