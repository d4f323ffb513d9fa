package blob

import (
	"strings"

	"bastion/api"
)

// How a value lies on its blocks. They are a ring that rises: each begins with the number of the next one, the last with the first's, which is the id. The first one, the head, goes on with how many bytes the value has, and the sum of all that stands on its blocks. Behind that stand the value's bytes, and 00s behind their end.
//
// The ring is closed so that no block behind the head is taken for a head itself, whatever a value's bytes are: the way from there back to it leads over the head, and so does not rise.
//
// There is no room for more beside the value's bytes: of the one block for 120 others, whose bytes may all be the value's, 121 links take 242 bytes, and the size and the sum 11.
const (
	linkBytes = 2
	sizeBytes = 3
	sumBytes  = 8
	sumAt     = linkBytes + sizeBytes
	headBytes = sumAt + sumBytes
)

// images are the bytes of the blocks l, on which data is to lie.
func images(l []int, data string) [][]byte {
	all := make([][]byte, len(l))
	for no, part := range parts(data, len(l)) {
		b := make([]byte, api.BlockSize)
		setNumber(b[:linkBytes], uint64(l[(no+1)%len(l)]))
		copy(b[dataAt(no):], part)
		all[no] = b
	}
	head := all[0]
	setNumber(head[linkBytes:sumAt], uint64(len(data)))
	setNumber(head[sumAt:headBytes], sumOf(all))
	return all
}

// parts are what each of n blocks has of a value's bytes; those behind its end have none.
func parts(data string, n int) []string {
	l := make([]string, n)
cutting:
	for no := range l {
		switch room := api.BlockSize - dataAt(no); {
		case len(data) <= room:
			l[no] = data
			break cutting
		default:
			l[no], data = data[:room], data[room:]
		}
	}
	return l
}

// dataAt is where the value's bytes begin in its block no.
func dataAt(no int) int {
	if no == 0 {
		return headBytes
	}
	return linkBytes
}

// stands is the value whose head is the block id of the map, whether that is free or taken: its blocks, and its bytes.
func (d *Desk) stands(id int) ([]int, string, api.Errno) {
	l, all, e := d.ring(id)
	if e != api.OK {
		return nil, "", e
	}
	// Blocks that were written for two values, of which one was cut, may well be a ring.
	head := all[0]
	if number(head[sumAt:headBytes]) != sumOf(all) {
		return nil, "", api.ErrForm
	}
	size := sizeIn(head)
	var data strings.Builder
	for no, b := range all {
		part := b[dataAt(no):]
		data.Write(part[:min(len(part), size-data.Len())])
	}
	return l, data.String(), api.OK
}

// ring are the blocks that are linked from id on, as many as its value needs if it is a head, and their bytes.
func (d *Desk) ring(id int) ([]int, [][]byte, api.Errno) {
	b, e := d.read(id)
	if e != api.OK {
		return nil, nil, e
	}
	l, all, n := []int{id}, [][]byte{b}, Need(sizeIn(b))
	for len(l) < n {
		i := linkIn(b)
		if i <= l[len(l)-1] || i >= d.free.Len() {
			return nil, nil, api.ErrForm
		}
		if b, e = d.read(i); e != api.OK {
			return nil, nil, e
		}
		l, all = append(l, i), append(all, b)
	}
	if linkIn(b) != id {
		return nil, nil, api.ErrForm
	}
	return l, all, api.OK
}

// read is the block i of the map.
func (d *Desk) read(i int) ([]byte, api.Errno) { return d.j.Read(d.base + i) }

// linkIn is the block to which a block's bytes link.
func linkIn(b []byte) int { return int(number(b[:linkBytes])) }

// sizeIn is how many bytes a head tells.
func sizeIn(head []byte) int { return int(number(head[linkBytes:sumAt])) }

// sumOf is a hash (FNV-1a, of 64 bits) of all that stands on a value's blocks, but for the sum itself.
func sumOf(all [][]byte) uint64 {
	sum := uint64(14695981039346656037)
	add := func(part []byte) {
		for _, c := range part {
			sum = (sum ^ uint64(c)) * 1099511628211
		}
	}
	add(all[0][:sumAt])
	add(all[0][headBytes:])
	for _, b := range all[1:] {
		add(b)
	}
	return sum
}

// setNumber makes b a number's bytes, the lowest first.
func setNumber(b []byte, n uint64) {
	for i := range b {
		b[i] = byte(n >> (8 * i))
	}
}

// number is the number whose bytes b are.
func number(b []byte) uint64 {
	n := uint64(0)
	for i, c := range b {
		n |= uint64(c) << (8 * i)
	}
	return n
}
