package store

import (
	"bytes"

	"bastion/api"
	"bastion/code"
	"bastion/journal"
	"bastion/tree"
)

// The header: a mark, how many blocks the disk has, and 1 more than the root's page, each as chapter 1 lays it; 00s behind them. The number of blocks is told since all places hang on it. A header of 00s alone is that of a disk on which nothing was ever committed.
const (
	header = 0
	mark   = "bastion store"
)

// noRoot is the root of a tree without pairs.
const noRoot = -1

// firstPage is the disk's block that is the page 0.
const firstPage = api.Area + 1

// firstLong is the first long block of a disk of n blocks.
func firstLong(n int) int { return firstPage + (n-firstPage)/2 }

// headerOf is the header of a store on n blocks, whose tree has that root.
func headerOf(n, root int) []byte {
	block := make([]byte, api.BlockSize)
	copy(block, code.Count(code.Count(code.Str(nil, mark), n), root+1))
	return block
}

// rootIn is the root that a header on n blocks tells; false, if it is no header.
func rootIn(b []byte, n int) (int, bool) {
	if bytes.Equal(b, make([]byte, api.BlockSize)) {
		return noRoot, true
	}
	r := code.NewReader(b)
	r.Str(len(mark))
	r.Count(api.MaxBlocks)
	root := r.Count(api.MaxBlocks) - 1
	return root, bytes.Equal(b, headerOf(n, root))
}

// laid is what lies on a disk: the root of the tree, and all pages.
func laid(j *journal.Journal) (int, [][]byte, api.Errno) {
	n := j.Disk().Len()
	b, e := j.Read(header)
	if e != api.OK {
		return noRoot, nil, e
	}
	root, is := rootIn(b, n)
	if !is {
		return noRoot, nil, api.ErrForm
	}
	var image [][]byte
	for i := firstPage; i < firstLong(n); i++ {
		if b, e = j.Read(i); e != api.OK {
			return noRoot, nil, e
		}
		image = append(image, b)
	}
	return root, image, api.OK
}

// claim takes the blocks of all long values; false, if one is none, or an entry is.
func (s *Store) claim() bool {
	for _, p := range s.pairs.Range("", "") {
		x, is := entryIn(p.Value)
		if !is || x.long && !s.claimLong(x.id) {
			return false
		}
	}
	return true
}

// claimLong takes the blocks of a long value; false, if there is none that could have been put.
func (s *Store) claimLong(id int) bool {
	if s.desk.Claim(id) != api.OK {
		return false
	}
	data, e := s.desk.Get(id)
	return e == api.OK && len(data) > Short && len(data) <= MaxLong
}

// group is what is written so that the act stands: the pages that changed, and the header, if it does.
func (s *Store) group(pages []tree.Page) []journal.Write {
	var l []journal.Write
	for _, p := range pages {
		l = append(l, journal.Write{Block: firstPage + p.No, Data: p.Data})
	}
	if root := s.pairs.Root(); root != s.root {
		l = append(l, journal.Write{Block: header, Data: headerOf(s.j.Disk().Len(), root)})
	}
	return l
}

// entry is what stands in the tree behind a key: a short value itself, or the id of a long one.
type entry struct {
	long bool
	id   int
	text string
}

// value is the entry as a pair's value: a truth value, whether it is long; then the id as a count, or the short value, for whose length there would be no room.
func (x entry) value() string {
	b := code.Flag(nil, x.long)
	if x.long {
		return string(code.Count(b, x.id))
	}
	return string(b) + x.text
}

// entryIn is the entry that a pair's value is; false, if it is none.
func entryIn(value string) (entry, bool) {
	r := code.NewReader([]byte(value))
	x := entry{long: r.Flag()}
	if !x.long {
		x.text = value[len(value)-r.Left():]
		return x, r.OK()
	}
	x.id = r.Count(api.MaxBlocks)
	return x, r.Done()
}

// parted are the blocks from first on, and below end, that are taken, told by their places behind first, rising, and those that are free.
func parted(first, end int, places []int) (taken, free []int) {
	for i := first; i < end; i++ {
		if len(places) > 0 && first+places[0] == i {
			taken, places = append(taken, i), places[1:]
		} else {
			free = append(free, i)
		}
	}
	return taken, free
}
