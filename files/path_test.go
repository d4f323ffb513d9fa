package files_test

import (
	"strings"
	"testing"

	"bastion/desc"
	"bastion/files"
)

// checkPath tells where Path is not as it must be: a path is the same thing everywhere.
func checkPath(t *testing.T, p string) {
	t.Helper()
	if got := files.Path(p); got != isPathTold(p) || got != desc.Path(p) {
		t.Errorf("Path(%.70q), of %d bytes: %t", p, len(p), got)
	}
}

// P17.1, example 1.
func TestPath(t *testing.T) {
	for _, p := range []string{
		"a", "a/b.c", "a-1/B_2/..x", "A", "Z", "z", "0", "9", "-", "_", "...", ".x", "x.", "x..", "a/.../b", "-/_/.a", "0/1",
		strings.Repeat("a", 48), strings.Repeat("a/", 23) + "ab", strings.Repeat(".", 48), strings.Repeat("a", 46) + "/b",
	} {
		if !files.Path(p) {
			t.Errorf("Path(%q): no", p)
		}
		checkPath(t, p)
	}
	for _, p := range []string{
		"", "/a", "a/", "a//b", "./a", "a/..", "a b", "/", "//", ".", "..", "../a", "a/.", "a/./b", "a/../b", "a/b/", "a/ ", "a\\b", "a:b", "a*", "a?", "~", "\n", "a\n", "\x00", "a\x00", "\u00e4", "a/\xff",
		strings.Repeat("a", 49), strings.Repeat("a/", 24), strings.Repeat("a/", 24) + "a", strings.Repeat("/", 1<<20), strings.Repeat("a", 1<<20),
	} {
		if files.Path(p) {
			t.Errorf("Path(%.70q): yes", p)
		}
		checkPath(t, p)
	}
}

// P17.1: each byte, at whatever place of a path.
func TestPathEachByte(t *testing.T) {
	for c := range 256 {
		one := string([]byte{byte(c)})
		for _, around := range []struct{ ahead, behind string }{
			{"", ""}, {"a", ""}, {"", "a"}, {"a", "a"}, {"a/", ""}, {"", "/a"}, {"a/", "/a"}, {".", ""}, {"", "."}, {"a/.", "/a"}, {"..", ""},
			{strings.Repeat("a", 46), ""}, {strings.Repeat("a", 47), ""}, {"", strings.Repeat("a", 47)}, {strings.Repeat("a", 48), ""},
		} {
			checkPath(t, around.ahead+one+around.behind)
		}
	}
}

// P17.1: all short texts.
func TestPathAllShort(t *testing.T) {
	all := []string{""}
	for range 6 {
		var longer []string
		for _, s := range all {
			for _, c := range []string{"a", "B", "-", ".", "/", " "} {
				longer = append(longer, s+c)
			}
		}
		for _, s := range longer {
			checkPath(t, s)
		}
		all = longer
	}
}
