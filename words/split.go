package words

import (
	"strings"

	"bastion/api"
)

const blanks = " \t"

// split are a line's words; digits are what the digits behind a \x are worth.
func split(line string, digits map[byte]byte) ([]string, api.Errno) {
	if len(line) > api.MaxLine {
		return nil, api.ErrTooLarge
	}
	var words []string
	rest := strings.TrimLeft(line, blanks)
	for rest != "" && rest[0] != '#' {
		word, size := wordAt(rest, digits)
		behind := rest[size:]
		rest = strings.TrimLeft(behind, blanks)
		// A word ends at a blank, or with the line; of what is no word nothing was passed.
		if behind != "" && rest == behind {
			return nil, api.ErrForm
		}
		words = append(words, word)
	}
	// What is left is a remark.
	if strings.Contains(rest, "\n") {
		return nil, api.ErrForm
	}
	return words, api.OK
}

// wordAt is what the word that begins text tells, and how many bytes the word has; 0: there is none.
func wordAt(text string, digits map[byte]byte) (string, int) {
	if text[0] != '"' {
		return told(text, plainAt)
	}
	word, size := told(text[1:], func(text string) (byte, int) { return markAt(text, digits) })
	if !strings.HasPrefix(text[1+size:], `"`) {
		return "", 0
	}
	return word, size + 2
}

// told is what the marks that begin text tell, and how many bytes they have. How one looks is told by look: the byte that it tells, and how many bytes it has (0: there is none).
func told(text string, look func(text string) (byte, int)) (string, int) {
	size := 0
	word := build(func(to *strings.Builder) {
		for c, n := look(text); n > 0; c, n = look(text[size:]) {
			to.WriteByte(c)
			size += n
		}
	})
	return word, size
}

// plainAt is the byte of a plain word that begins text.
func plainAt(text string) (byte, int) {
	if text == "" || !isPlain(text[0]) {
		return 0, 0
	}
	return text[0], 1
}

// markAt is what the mark of a quoted word that begins text tells.
func markAt(text string, digits map[byte]byte) (byte, int) {
	if text == "" || !isShown(text[0]) {
		return 0, 0
	}
	switch text[0] {
	case '"':
		return 0, 0
	case '\\':
		return escapeAt(text, digits)
	}
	return text[0], 1
}

// escapeAt is what the mark that begins text tells, one with a \ ahead.
func escapeAt(text string, digits map[byte]byte) (byte, int) {
	if len(text) < 2 {
		return 0, 0
	}
	switch text[1] {
	case '"', '\\':
		return text[1], 2
	case 'n':
		return '\n', 2
	case 't':
		return '\t', 2
	case 'x':
		return hexAt(text, digits)
	}
	return 0, 0
}

// hexAt is what the mark that begins text tells, one with a \x ahead.
func hexAt(text string, digits map[byte]byte) (byte, int) {
	if len(text) < 4 {
		return 0, 0
	}
	high, isHigh := digits[text[2]]
	low, isLow := digits[text[3]]
	if !isHigh || !isLow {
		return 0, 0
	}
	return 16*high + low, 4
}
