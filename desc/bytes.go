package desc

import "bastion/api"

// consists tells whether all bytes of a text are of a kind.
func consists(s string, isOf func(c byte) bool) bool {
	for i := range len(s) {
		if !isOf(s[i]) {
			return false
		}
	}
	return true
}

func isSmall(c byte) bool { return c >= 'a' && c <= 'z' }

func isOfName(c byte) bool {
	return isSmall(c) || c >= '0' && c <= '9' || c == '-' || c == '_'
}

func isOfPath(c byte) bool {
	return isOfName(c) || c >= 'A' && c <= 'Z' || c == '.'
}

// isWord tells whether a text is a word as an axis has them: those of a line may have any bytes.
func isWord(s string) bool {
	return s != "" && len(s) <= api.MaxWord && consists(s, func(c byte) bool { return c >= 0x21 && c <= 0x7e })
}
