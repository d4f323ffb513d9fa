package desc_test

import (
	"strings"
	"testing"

	"bastion/desc"
)

// checkNames tells where Name and Path are not as they must be.
func checkNames(t *testing.T, s string) {
	t.Helper()
	if got := desc.Name(s); got != isName(s) {
		t.Errorf("Name(%.70q), of %d bytes: %v", s, len(s), got)
	}
	if got := desc.Path(s); got != isPath(s) {
		t.Errorf("Path(%.70q), of %d bytes: %v", s, len(s), got)
	}
}

// P12.1: names.
func TestName(t *testing.T) {
	for _, s := range []string{"a", "z", "a-9_", "a-", "a_", "a0", "template", "job", strings.Repeat("a", 24), "z" + strings.Repeat("9", 23)} {
		if !desc.Name(s) {
			t.Errorf("Name(%q): no", s)
		}
		checkNames(t, s)
	}
	for _, s := range []string{"", "9a", "-a", "_a", "A", "aA", "a.b", "a/b", "a b", " a", "a ", "a\n", "\x00", "a\x00", "\u00e4", "a\u00e4", "$a", "*", strings.Repeat("a", 25), "a" + strings.Repeat("\x00", 23), strings.Repeat("a", 1<<20)} {
		if desc.Name(s) {
			t.Errorf("Name(%.70q): yes", s)
		}
		checkNames(t, s)
	}
}

// P12.1: paths.
func TestPath(t *testing.T) {
	for _, s := range []string{"a", "A", "9", "-", "_", "a/b", "a/B.c", "a-1/B_2/..x", "...", ".x", "x.", "..x", "a/.../b", "a..b", "-/_", strings.Repeat("a", 48), strings.Repeat("a/", 23) + "ab", strings.Repeat(".", 48)} {
		if !desc.Path(s) {
			t.Errorf("Path(%q): no", s)
		}
		checkNames(t, s)
	}
	for _, s := range []string{"", "/", "/a", "a/", "a//b", ".", "..", "./a", "../x", "a/.", "a/..", "a/./b", "a/../b", "a b", "a/ ", "a\n", "a\\b", "a*", "a/\x00", "\u00e4", "a:b", strings.Repeat("a", 49), strings.Repeat("a/", 24) + "a", strings.Repeat("a/", 24), strings.Repeat("/", 1<<20)} {
		if desc.Path(s) {
			t.Errorf("Path(%.70q): yes", s)
		}
		checkNames(t, s)
	}
}

// P12.1: each byte, by itself and at each end.
func TestNamesEachByte(t *testing.T) {
	for c := range 256 {
		one := string([]byte{byte(c)})
		for _, around := range []struct{ ahead, behind string }{
			{"", ""}, {"a", ""}, {"", "a"}, {"a", "a"}, {"a/", ""}, {"", "/a"}, {"a/", "/a"}, {".", ""}, {"", "."}, {"a/.", "/a"},
			{strings.Repeat("a", 23), ""}, {strings.Repeat("a", 24), ""}, {strings.Repeat("a", 47), ""}, {"", strings.Repeat("a", 47)}, {strings.Repeat("a", 48), ""},
		} {
			checkNames(t, around.ahead+one+around.behind)
		}
	}
}

// P12.1: all short texts.
func TestNamesAllShort(t *testing.T) {
	all := []string{""}
	for range 6 {
		var longer []string
		for _, s := range all {
			for _, c := range []string{"a", "A", "9", "-", ".", "/"} {
				longer = append(longer, s+c)
			}
		}
		for _, s := range longer {
			checkNames(t, s)
		}
		all = longer
	}
}
