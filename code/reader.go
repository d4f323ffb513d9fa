package code

import "bastion/api"

// Reader takes things off bytes, one behind the other.
type Reader struct{ place }

// place is where a reader stands, and whether it has failed.
type place struct {
	ahead  []byte
	failed bool
}

func (p *place) pass(n int) { p.ahead = p.ahead[n:] }

func (p *place) fail() { p.ahead, p.failed = nil, true }

func (p *place) left() int { return len(p.ahead) }

func (p *place) whole() bool { return !p.failed }

// NewReader is a reader at the beginning of b, as b is now.
func NewReader(b []byte) *Reader {
	return &Reader{place{ahead: own(b, 0)}}
}

// Num takes off a number.
func (r *Reader) Num() int64 { return take(r, numAt) }

// Count takes off a count of most at most.
func (r *Reader) Count(most int) int {
	return take(r, func(b []byte) (int, int) { return countAt(b, most) })
}

// Str takes off a text of most bytes at most.
func (r *Reader) Str(most int) string {
	return take(r, func(b []byte) (string, int) { return strAt(b, most) })
}

// Flag takes off a truth value.
func (r *Reader) Flag() bool { return take(r, flagAt) }

// Left is how many bytes are behind where the reader stands.
func (r *Reader) Left() int {
	if r == nil {
		return 0
	}
	return r.left()
}

// OK tells whether the reader has not failed.
func (r *Reader) OK() bool { return r != nil && r.whole() }

// Done tells whether all was taken off.
func (r *Reader) Done() bool { return r.OK() && r.left() == 0 }

// take takes a thing of any kind off r. How one looks is told by look: the thing that begins some bytes, and how many bytes it has (0: there is no such thing).
func take[T any](r *Reader, look func(b []byte) (T, int)) T {
	var none T
	if !r.OK() {
		return none
	}
	thing, size := look(r.ahead)
	if size == 0 {
		r.fail()
		return none
	}
	r.pass(size)
	return thing
}

func numAt(b []byte) (int64, int) {
	u, size := groupsAt(b)
	return unfold(u), size
}

func countAt(b []byte, most int) (int, int) {
	u, size := groupsAt(b)
	if most < 0 || u > uint64(min(most, api.MaxCount)) {
		return 0, 0
	}
	return int(u), size
}

func strAt(b []byte, most int) (string, int) {
	n, head := countAt(b, most)
	if head == 0 || n > len(b)-head {
		return "", 0
	}
	return string(b[head : head+n]), head + n
}

func flagAt(b []byte) (bool, int) {
	if len(b) == 0 || b[0] > 1 {
		return false, 0
	}
	return b[0] == 1, 1
}

// groupsAt is the number of 64 bits whose groups begin b, and how many they are; 0 of them, if one is missing, or one too many, or the number has no room.
func groupsAt(b []byte) (uint64, int) {
	var u uint64
	for i, c := range b {
		// Nine groups are 63 bits: a tenth one has one bit, and nothing stands behind it.
		if i == numBytes-1 && c > 1 {
			return 0, 0
		}
		u |= uint64(c%128) << (7 * i)
		if c >= 128 {
			continue
		}
		if c == 0 && i > 0 {
			return 0, 0
		}
		return u, i + 1
	}
	return 0, 0
}
