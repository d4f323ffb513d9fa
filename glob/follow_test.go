package glob_test

import (
	"strings"
	"testing"

	"bastion/glob"
)

// P10.3: a pattern without * and ? matches just itself.
func TestItself(t *testing.T) {
	all := short([]string{"a", "/", ".", "\\", "["}, 4)
	for _, pattern := range all[1:] {
		for _, s := range all {
			if glob.Match(pattern, s) != (pattern == s) {
				t.Errorf("Match(%q, %q): %v", pattern, s, pattern != s)
			}
		}
		for c := range 256 {
			one := string([]byte{byte(c)})
			for _, s := range []string{pattern + one, one + pattern, pattern[1:] + one, one + pattern[1:]} {
				if glob.Match(pattern, s) != (pattern == s) {
					t.Errorf("Match(%q, %q): %v", pattern, s, pattern != s)
				}
			}
		}
	}
}

// P10.3: ** matches every text; * just those without /.
func TestStars(t *testing.T) {
	for _, s := range append(short(textMarks, 4), strings.Repeat("a", 5000), strings.Repeat("/", 5000), strings.Repeat("a", 5000)+"/") {
		if !glob.Match("**", s) {
			t.Errorf("** does not match %.70q", s)
		}
		if glob.Match("*", s) == strings.Contains(s, "/") {
			t.Errorf("* and %.70q: %v", s, strings.Contains(s, "/"))
		}
	}
}

// cutMatch tells whether a beginning of s is matched by one pattern, and the rest by another one.
func cutMatch(first, second, s string) bool {
	for at := range len(s) + 1 {
		if glob.Match(first, s[:at]) && glob.Match(second, s[at:]) {
			return true
		}
	}
	return false
}

// P10.4: patterns that are put together.
func TestPutTogether(t *testing.T) {
	patterns := short([]string{"a", "/", "*", "?"}, 3)[1:]
	texts := short([]string{"a", "/"}, 5)
	for _, first := range patterns {
		for _, second := range patterns {
			if strings.HasSuffix(first, "*") && strings.HasPrefix(second, "*") {
				continue
			}
			for _, s := range texts {
				if got := glob.Match(first+second, s); got != cutMatch(first, second, s) {
					t.Errorf("Match(%q, %q): %v; of %q and %q it is not", first+second, s, got, first, second)
				}
			}
		}
	}
}

// P10.4: of stars on both sides the first two are one piece, so that more is matched than by the two.
func TestStarsPutTogether(t *testing.T) {
	for _, c := range []struct {
		first, second, s string
	}{{"a*", "*b", "a/b"}, {"*", "*", "/"}, {"a*", "*", "a//"}} {
		if !glob.Match(c.first+c.second, c.s) || cutMatch(c.first, c.second, c.s) {
			t.Errorf("%q and %q, of %q", c.first, c.second, c.s)
		}
	}
}
