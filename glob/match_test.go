package glob_test

import (
	"math/rand/v2"
	"strings"
	"testing"

	"bastion/api"
)

// P10.1, the examples 1 and 2, and what is like them.
func TestMatch(t *testing.T) {
	for _, c := range []struct {
		pattern string
		yes, no []string
	}{
		{"src/*.go", []string{"src/a.go", "src/.go", "src/a.go.go", "src/*.go"}, []string{"src/a/b.go", "src//.go", "a.go", "/src/a.go", "src/a.go/", "src/a.g", "Src/a.go", ""}},
		{"src/**.go", []string{"src/a.go", "src/.go", "src/a/b.go", "src//.go", "src/a/b/c.go"}, []string{"src.go", "src/a", "lib/a.go", "src/a.go/b"}},
		{"a?c", []string{"abc", "a?c", "a*c", "acc", "a\xffc", "a\nc", "a\x00c"}, []string{"a/c", "ac", "abbc", "abcd", "xabc", "", "a\u00e4c"}},
		{"a??c", []string{"abbc", "a\u00e4c"}, []string{"abc", "a/bc", "ab/c"}},
		{"*", []string{"", "a", "abc", "*", ".", "a b\n\x00\xff"}, []string{"/", "a/", "/a", "a/b"}},
		{"**", []string{"", "a", "/", "a/b", "//", "\n/\x00\xff"}, nil},
		{"***", []string{"", "a", "/", "a/b/c", "\n"}, nil},
		{"****", []string{"", "/", "a/b/c"}, nil},
		{"?", []string{"a", "?", "*", "\x00", "\xff", "\n", " "}, []string{"", "/", "ab", "\u00e4"}},
		{"?*", []string{"a", "ab"}, []string{"", "/", "a/", "/a"}},
		{"?**", []string{"a", "a/", "a/b"}, []string{"", "/", "/a"}},
		{"*?", []string{"a", "ab"}, []string{"", "a/", "/a"}},
		{"**?", []string{"a", "/a", "a/b"}, []string{"", "/", "a/"}},
		{"/", []string{"/"}, []string{"", "//", "a/"}},
		{"*/*", []string{"/", "a/b", "a/", "/b"}, []string{"", "a", "a/b/c", "//"}},
		{"**/*", []string{"/", "a/b", "a/b/c", "//"}, []string{"", "a"}},
		{"**/c", []string{"/c", "a/c", "a/b/c", "c/c"}, []string{"c", "a/cc", "ac", "a/c/"}},
		{"a*b*c", []string{"abc", "aXbYc", "abbcc", "abcbc"}, []string{"ab", "acb", "a/bc", "ab/c", "abcd"}},
		{"a**b", []string{"ab", "a/b", "aa/bb", "abab"}, []string{"a", "b", "aba", "ba"}},
		{"*a*", []string{"a", "xay", "aaa"}, []string{"", "x", "/a", "a/"}},
		{"ab", []string{"ab"}, []string{"", "a", "b", "abb", "aab", "ba", "a\xffb", "AB"}},
		{`\*`, []string{`\`, `\a`, `\*`}, []string{"*", "", "a"}},
		{"[ab]", []string{"[ab]"}, []string{"a", "b", ""}},
		{"{a,b}", []string{"{a,b}"}, []string{"a", "b"}},
		{"a.b", []string{"a.b"}, []string{"axb", "ab"}},
		{"!a", []string{"!a"}, []string{"a", "b"}},
		{"a+", []string{"a+"}, []string{"a", "aa"}},
		{"(a|b)^$", []string{"(a|b)^$"}, []string{"a", "b"}},
	} {
		for _, s := range c.yes {
			checkMatch(t, c.pattern, s, true)
		}
		for _, s := range c.no {
			checkMatch(t, c.pattern, s, false)
		}
	}
}

// P10.1: each byte of a pattern with each byte of a text.
func TestMatchEachByte(t *testing.T) {
	for p := range 256 {
		pattern := string([]byte{byte(p)})
		form := formOf(pattern)
		for c := range 256 {
			one := string([]byte{byte(c)})
			checkMatch(t, pattern, one, matchTold(form, one))
		}
	}
	for _, around := range []struct{ ahead, behind string }{{"a", ""}, {"", "a"}, {"a", "b"}, {"/", "/"}} {
		for _, many := range []string{"*", "**", "?"} {
			form := formOf(around.ahead + many + around.behind)
			for c := range 256 {
				one := around.ahead + string([]byte{byte(c)}) + around.behind
				checkMatch(t, around.ahead+many+around.behind, one, matchTold(form, one))
			}
		}
	}
}

// P10.1: all short patterns, and all short texts.
func TestMatchAllShort(t *testing.T) {
	texts := short([]string{"a", "b", "/"}, 5)
	for _, pattern := range short([]string{"a", "b", "/", "*", "?"}, 4) {
		form := formOf(pattern)
		for _, s := range texts {
			checkMatch(t, pattern, s, matchTold(form, s))
		}
	}
	texts = short([]string{"a", "/"}, 5)
	for _, pattern := range short([]string{"a", "/", "*"}, 7) {
		form := formOf(pattern)
		for _, s := range texts {
			checkMatch(t, pattern, s, matchTold(form, s))
		}
	}
}

// P10.1: patterns and texts drawn at random, of what is no pattern, too.
func TestMatchDrawn(t *testing.T) {
	r := rand.New(rand.NewPCG(10, 1))
	for range 20000 {
		pattern := drawn(r, patternMarks, 12)
		if r.IntN(20) == 0 {
			pattern = drawn(r, textMarks, 70)
		}
		form := formOf(pattern)
		for range 5 {
			s := drawn(r, textMarks, 14)
			checkMatch(t, pattern, s, matchTold(form, s))
		}
		s := filled(r, pattern)
		checkMatch(t, pattern, s, matchTold(form, s))
	}
}

// filled is a text that a pattern may well match: each piece has been put into it as one that it stands for.
func filled(r *rand.Rand, pattern string) string {
	return aPiece.ReplaceAllStringFunc(pattern, func(piece string) string {
		switch piece {
		case "**":
			return drawn(r, textMarks, 4)
		case "*":
			return strings.ReplaceAll(drawn(r, textMarks, 4), "/", "")
		case "?":
			return "x"
		}
		return piece
	})
}

// P10.1: the longest patterns, and long texts: it ends soon, whatever there is to try.
func TestMatchLong(t *testing.T) {
	whole := strings.Repeat("a", api.MaxWord)
	checkMatch(t, whole, whole, true)
	checkMatch(t, whole, whole[1:], false)
	checkMatch(t, whole, whole+"a", false)
	checkMatch(t, whole[1:]+"b", whole, false)

	long := strings.Repeat("a", 1<<18)
	for _, c := range []struct {
		pattern, s string
		want       bool
	}{
		{strings.Repeat("a*", 32), long, true},
		{strings.Repeat("a*", 31) + "b", long, false},
		{strings.Repeat("*a", 32), long, true},
		{strings.Repeat("*a", 31) + "*b", long, false},
		{strings.Repeat("**a", 21), long, true},
		{strings.Repeat("**a", 21) + "b", long, false},
		{strings.Repeat("**/", 21), long, false},
		{strings.Repeat("**/", 21), strings.Repeat("a/", 1<<17), true},
		{strings.Repeat("*/", 32), strings.Repeat("a/", 1<<17), false},
		{strings.Repeat("*/", 32), strings.Repeat("a/", 32), true},
		{strings.Repeat("*", 64), long + "/" + long, true},
		{"*", long, true},
		{"*", long + "/", false},
		{"*", "/" + long, false},
		{"**b", long + "b", true},
		{"**b", long, false},
		{strings.Repeat("?", 64), long, false},
		{strings.Repeat("?", 63) + "*", long, true},
		{strings.Repeat("?", 64), long[:64], true},
		{strings.Repeat("?", 64), long[:63], false},
		{strings.Repeat("?", 63) + "*", long[:62], false},
	} {
		checkMatch(t, c.pattern, c.s, c.want)
	}
}
