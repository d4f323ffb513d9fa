package journal

import (
	"bytes"

	"bastion/api"
	"bastion/disk"
)

// The area: its first block is the head, which tells how many blocks the group has that counts, and where they belong (0 blocks: none counts); what they are to be stands behind it, one slot each, in the group's order.
const (
	head  = 1
	slots = 2
)

// The head: the sum of all that stands behind the sum, in the head and in the slots; how many blocks; the place of each.
const (
	sumBytes   = 8
	countAt    = sumBytes
	placesAt   = countAt + 1
	placeBytes = 2
)

// fault is what is wrong with a group of d; OK, if nothing is.
func fault(d *disk.Disk, l []Write) api.Errno {
	if len(l) > api.MaxGroup {
		return api.ErrFull
	}
	times := make(map[int]int, len(l))
	for _, w := range l {
		times[w.Block]++
		if times[w.Block] > 1 || !isPlain(d, w.Block) || len(w.Data) != api.BlockSize {
			return api.ErrArg
		}
	}
	return api.OK
}

// lay writes a group to the area. The head comes last: it is one block, so by its write, and not ahead of it, the whole group counts.
func lay(d *disk.Disk, l []Write) api.Errno {
	for i, w := range l {
		if e := d.Write(slots+i, w.Data); e != api.OK {
			return e
		}
	}
	return d.Write(head, headOf(l))
}

// finish writes the blocks of a group that counts to where they belong. The head goes last, so that a cut ahead of that leaves all of it to the next Open; and it must go, or a later Open would write over what came behind this group.
func finish(d *disk.Disk, l []Write) api.Errno {
	for _, w := range l {
		if e := d.Write(w.Block, w.Data); e != api.OK {
			return e
		}
	}
	return d.Write(head, make([]byte, api.BlockSize))
}

// pending is the group in the area of d that counts; empty, if there is none.
func pending(d *disk.Disk) ([]Write, api.Errno) {
	h, e := d.Read(head)
	if e != api.OK {
		return nil, e
	}
	n := int(h[countAt])
	if n > api.MaxGroup {
		return nil, api.OK
	}
	l := make([]Write, n)
	for i := range l {
		at := placesAt + i*placeBytes
		l[i].Block = int(h[at]) | int(h[at+1])<<8
		if l[i].Data, e = d.Read(slots + i); e != api.OK {
			return nil, e
		}
	}
	// An area that others wrote may hold anything: what is no group of this disk, or is not as it was laid, counts for nothing.
	if fault(d, l) != api.OK || !bytes.Equal(h, headOf(l)) {
		return nil, api.OK
	}
	return l, api.OK
}

// headOf is the head that tells a group.
func headOf(l []Write) []byte {
	h := make([]byte, api.BlockSize)
	h[countAt] = byte(len(l))
	for i, w := range l {
		at := placesAt + i*placeBytes
		h[at], h[at+1] = byte(w.Block), byte(w.Block>>8)
	}
	add := newSum()
	sum := add(h[countAt:])
	for _, w := range l {
		sum = add(w.Data)
	}
	for i := range sumBytes {
		h[i] = byte(sum >> (8 * i))
	}
	return h
}

// newSum is a hash (FNV-1a, of 64 bits): it is handed what is summed up, part by part, and answers each time the sum of all parts till then.
func newSum() func(part []byte) uint64 {
	sum := uint64(14695981039346656037)
	return func(part []byte) uint64 {
		for _, b := range part {
			sum = (sum ^ uint64(b)) * 1099511628211
		}
		return sum
	}
}
