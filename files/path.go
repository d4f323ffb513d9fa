package files

import "iter"

// parts tells the parts of a path, from the left, each with the path up to its end.
func parts(path string) iter.Seq2[string, string] {
	return func(yield func(part, upTo string) bool) {
		from := 0
		for to := range len(path) + 1 {
			if to < len(path) && path[to] != '/' {
				continue
			}
			if !yield(path[from:to], path[:to]) {
				return
			}
			from = to + 1
		}
	}
}

func isPart(s string) bool {
	if s == "" || s == "." || s == ".." {
		return false
	}
	for i := range len(s) {
		if !isOfPart(s[i]) {
			return false
		}
	}
	return true
}

func isOfPart(c byte) bool {
	switch {
	case c >= 'a' && c <= 'z', c >= 'A' && c <= 'Z', c >= '0' && c <= '9':
		return true
	}
	return c == '-' || c == '_' || c == '.'
}
