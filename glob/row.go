package glob

import (
	"iter"
	"strings"
)

// The pieces that stand for more than themselves.
const (
	deepStar = "**"
	star     = "*"
	oneMark  = "?"
)

// pieces tells a pattern's pieces, from the left.
func pieces(pattern string) iter.Seq[string] {
	return func(yield func(piece string) bool) {
		rest := pattern
		for rest != "" {
			size := pieceSize(rest)
			if !yield(rest[:size]) {
				return
			}
			rest = rest[size:]
		}
	}
}

// pieceSize is how many bytes the piece has that begins a pattern.
func pieceSize(pattern string) int {
	if strings.HasPrefix(pattern, deepStar) {
		return len(deepStar)
	}
	return 1
}

// newRow is the row of no pieces at all. A row tells of each place of s, its end too, whether the pieces so far can stand for all that is ahead of that place.
func newRow(s string) []bool {
	row := make([]bool, len(s)+1)
	row[0] = true
	return row
}

// goOn makes of the row of the pieces ahead of this one that with this one.
func goOn(row []bool, piece, s string) {
	switch piece {
	case deepStar, star:
		spread(row, piece, s)
	default:
		step(row, piece, s)
	}
}

// spread takes each yes of the row on to all places that a piece of any length can end at.
func spread(row []bool, piece, s string) {
	for i := range len(s) {
		row[i+1] = row[i+1] || row[i] && fits(piece, s[i])
	}
}

// step takes each yes of the row on by the one byte that a piece stands for.
func step(row []bool, piece, s string) {
	copy(row[1:], row)
	row[0] = false
	for i := range len(s) {
		row[i+1] = row[i+1] && fits(piece, s[i])
	}
}

// fits tells whether c may be among the bytes that a piece stands for.
func fits(piece string, c byte) bool {
	switch piece {
	case deepStar:
		return true
	case star, oneMark:
		return c != '/'
	}
	return c == piece[0]
}
