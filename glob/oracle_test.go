package glob_test

import (
	"math/rand/v2"
	"regexp"
	"slices"
	"strings"
	"testing"

	"bastion/glob"
)

// What the chapter says of patterns, told a second time: by expressions.
var (
	aPattern = regexp.MustCompile(`\A[!-~]{1,64}\z`)
	aPiece   = regexp.MustCompile(`\*\*|\*|\?|[^*?]`)
)

// wide is a text with a rune for each byte, since expressions look at runes.
func wide(s string) string {
	var to strings.Builder
	for _, c := range []byte(s) {
		to.WriteRune(rune(c))
	}
	return to.String()
}

// formOf is the expression of the texts that a pattern matches; nil, if it is no pattern.
func formOf(pattern string) *regexp.Regexp {
	if !aPattern.MatchString(pattern) {
		return nil
	}
	return regexp.MustCompile(`\A(?s:` + aPiece.ReplaceAllStringFunc(pattern, func(piece string) string {
		switch piece {
		case "**":
			return `.*`
		case "*":
			return `[^/]*`
		case "?":
			return `[^/]`
		}
		return regexp.QuoteMeta(piece)
	}) + `)\z`)
}

// matchTold is what Match must answer of a pattern's expression and a text.
func matchTold(form *regexp.Regexp, s string) bool {
	return form != nil && form.MatchString(wide(s))
}

// pickTold is what Pick must answer.
func pickTold(patterns, l []string) []string {
	var all []string
	for _, pattern := range patterns {
		form := formOf(pattern)
		for _, s := range l {
			if matchTold(form, s) {
				all = append(all, s)
			}
		}
	}
	return slices.DeleteFunc(slices.Clone(l), func(s string) bool { return !slices.Contains(all, s) })
}

// short are all texts of at most n of these marks.
func short(marks []string, n int) []string {
	all := []string{""}
	longest := all
	for range n {
		var more []string
		for _, s := range longest {
			for _, mark := range marks {
				more = append(more, s+mark)
			}
		}
		all = append(all, more...)
		longest = more
	}
	return all
}

// patternMarks are of what patterns are drawn; textMarks are of what texts.
var (
	patternMarks = []string{"a", "b", "/", "*", "**", "?", ".", "*a", "**/", "/*"}
	textMarks    = []string{"a", "b", "/", ".", "*", "?", "\n", "\x00", "\xff", "\u00e4"}
)

// drawn is a text of up to n marks.
func drawn(r *rand.Rand, marks []string, n int) string {
	var s strings.Builder
	for range r.IntN(n + 1) {
		s.WriteString(marks[r.IntN(len(marks))])
	}
	return s.String()
}

// drawnList are up to n such texts.
func drawnList(r *rand.Rand, marks []string, n, size int) []string {
	var l []string
	for range r.IntN(n + 1) {
		l = append(l, drawn(r, marks, size))
	}
	return l
}

// checkMatch tells where Match, and Any of that pattern alone, is not as it must be.
func checkMatch(t *testing.T, pattern, s string, want bool) {
	t.Helper()
	if got := glob.Match(pattern, s); got != want {
		t.Errorf("Match(%.70q, %.70q): %v", pattern, s, got)
	}
	if got := glob.Any([]string{pattern}, s); got != want {
		t.Errorf("Any of %.70q, %.70q: %v", pattern, s, got)
	}
}

// checkPick tells where Pick, or Any of one of its texts, is not as it must be.
func checkPick(t *testing.T, patterns, l, want []string) {
	t.Helper()
	if got := glob.Pick(patterns, l); !slices.Equal(got, want) {
		t.Errorf("Pick(%.20q, %.20q): %.20q; want %.20q", patterns, l, got, want)
	}
	for _, s := range l {
		if got := glob.Any(patterns, s); got != slices.Contains(want, s) {
			t.Errorf("Any(%.20q, %.70q): %v", patterns, s, got)
		}
	}
}
