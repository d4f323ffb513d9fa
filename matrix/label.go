package matrix

import (
	"strings"

	"bastion/api"
)

// Each part of a label ends at its own mark, or with the label; a \ takes from the byte behind it what that would mean.
const (
	quote    = '\\'
	nameEnd  = ':'
	valueEnd = ','
)

// isQuoted tells whether a byte stands behind a \ in a part that ends at this mark.
func isQuoted(c, end byte) bool { return c == quote || c == end }

// addPart writes a part of a label that ends at this mark.
func addPart(to *strings.Builder, part string, end byte) {
	for i := range len(part) {
		if isQuoted(part[i], end) {
			to.WriteByte(quote)
		}
		to.WriteByte(part[i])
	}
}

// parts takes off what is left of a label, part by part.
type parts struct {
	rest string
	more bool // whether a mark was ahead of the rest, so that it is a part even where it is empty
}

// take takes a part off that ends at this mark.
func (p *parts) take(end byte) (string, api.Errno) {
	var part strings.Builder
	for i := 0; i < len(p.rest); i++ {
		c := p.rest[i]
		if c == end {
			p.rest, p.more = p.rest[i+1:], true
			return part.String(), api.OK
		}
		if c == quote {
			i++
			if i == len(p.rest) || !isQuoted(p.rest[i], end) {
				return "", api.ErrForm
			}
			c = p.rest[i]
		}
		part.WriteByte(c)
	}
	p.rest, p.more = "", false
	return part.String(), api.OK
}
