// Package code is layer 1: numbers, counts, texts and truth values, laid behind one another as bytes and taken off again; see shared/doc/01-code.md.
package code

import "bastion/api"

// The bytes that the groups of a number, and of a count, have at most.
const (
	numBytes   = 10
	countBytes = 5
)

// Num is b with the bytes of the number n behind it.
func Num(b []byte, n int64) []byte {
	return addGroups(own(b, numBytes), fold(n))
}

// Count is b with the bytes of the count n behind it; b alone, if n is no count.
func Count(b []byte, n int) []byte {
	if !isCount(n) {
		return own(b, 0)
	}
	return addGroups(own(b, countBytes), uint64(n))
}

// Str is b with the bytes of the text s behind it; b alone, if s is too long for a text.
func Str(b []byte, s string) []byte {
	if !isCount(len(s)) {
		return own(b, 0)
	}
	head := addGroups(own(b, countBytes+len(s)), uint64(len(s)))
	return append(head, s...)
}

// Flag is b with the byte of the truth value v behind it.
func Flag(b []byte, v bool) []byte {
	var mark byte
	if v {
		mark = 1
	}
	return append(own(b, 1), mark)
}

// own copies b into a list with room behind it: what is written there must be seen neither by who handed in b, nor in another answer made of the same b.
func own(b []byte, room int) []byte {
	return append(make([]byte, 0, len(b)+room), b...)
}

// isCount tells whether n may be a count.
func isCount(n int) bool { return n >= 0 && n <= api.MaxCount }

// fold lays the numbers below 0 between the others, so that what is near 0 has few groups, whatever its sign.
func fold(n int64) uint64 {
	if n < 0 {
		// The opposite of -2^63 is itself, and twice that is 0: one less than it is 2^64 - 1, as it must be.
		return 2*uint64(-n) - 1
	}
	return 2 * uint64(n)
}

// unfold is the number that fold makes u of.
func unfold(u uint64) int64 {
	if u%2 == 1 {
		return -1 - int64(u/2)
	}
	return int64(u / 2)
}

// addGroups lays the groups of u behind b, the lowest first.
func addGroups(b []byte, u uint64) []byte {
	for u >= 128 {
		b = append(b, byte(u%128)+128)
		u /= 128
	}
	return append(b, byte(u))
}
