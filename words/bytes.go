package words

// hexDigits are the digits that may stand behind a \x, each at the place of what it is worth.
const hexDigits = "0123456789abcdef"

// digitValues are what the digits behind a \x are worth.
func digitValues() map[byte]byte {
	values := make(map[byte]byte, len(hexDigits))
	for i := range len(hexDigits) {
		values[hexDigits[i]] = byte(i)
	}
	return values
}

// isShown tells whether c may stand in a quoted word as it is, or begin a mark there.
func isShown(c byte) bool { return c >= 0x20 && c <= 0x7e }

// isPlain tells whether c may stand in a plain word, behind its first byte.
func isPlain(c byte) bool { return c > 0x20 && c <= 0x7e && c != '"' }
