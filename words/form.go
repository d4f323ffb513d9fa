package words

import (
	"strings"

	"bastion/api"
)

// addForm writes a word's own form, and tells whether the line fits still.
func addForm(to *strings.Builder, word string) bool {
	// A form is no shorter than its word: one that can't fit is not even looked at.
	if len(word) > api.MaxLine-to.Len() {
		return false
	}
	if isPlainWord(word) {
		addBytes(to, word)
	} else {
		addQuoted(to, word)
	}
	return to.Len() <= api.MaxLine
}

// isPlainWord tells whether the word, as it is, is a plain one.
func isPlainWord(word string) bool {
	if word == "" || word[0] == '#' {
		return false
	}
	for i := range len(word) {
		if !isPlain(word[i]) {
			return false
		}
	}
	return true
}

func addBytes(to *strings.Builder, text string) {
	for i := range len(text) {
		to.WriteByte(text[i])
	}
}

func addQuoted(to *strings.Builder, word string) {
	to.WriteByte('"')
	for i := range len(word) {
		addMark(to, word[i])
	}
	to.WriteByte('"')
}

// addMark writes the mark that tells c.
func addMark(to *strings.Builder, c byte) {
	switch c {
	case '"', '\\':
		to.WriteByte('\\')
		to.WriteByte(c)
	case '\n':
		addBytes(to, `\n`)
	case '\t':
		addBytes(to, `\t`)
	default:
		if isShown(c) {
			to.WriteByte(c)
			return
		}
		addBytes(to, `\x`)
		to.WriteByte(hexDigits[c/16])
		to.WriteByte(hexDigits[c%16])
	}
}
