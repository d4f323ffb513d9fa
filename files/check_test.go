package files_test

import (
	"math/rand/v2"
	"slices"
	"strconv"
	"strings"
	"testing"

	"bastion/api"
	"bastion/files"
)

// many are n files, with data of size bytes each.
func many(n, size int) []api.File {
	var l []api.File
	for i := range n {
		l = append(l, api.File{Path: "f" + strconv.Itoa(10000+i), Data: strings.Repeat("x", size)})
	}
	return l
}

// P17.1: trees.
func TestCheck(t *testing.T) {
	for _, text := range []string{
		"", "a", "a x", "a|b", "a/b x|c z", "a/a y|a/b x", "a/b|a/c/d|a/c/e", "A|B|a", "-|.a|0|A|_|a", "a|aa|ab", "a-b|a.b|a/b|a0", "a|a-b/c|a.b/c|a0/c", "a/b|a/b-c|a/b.c/d|a/b0", "...", "a/a/a/a|aa", "a/b|b/a", "b/a/b|ba", "a \xff\x00",
	} {
		checkCheck(t, tree(text), api.OK)
		checkCheck(t, tree(text), checkTold(tree(text)))
	}
	checkCheck(t, nil, api.OK)
	checkCheck(t, []api.File{}, api.OK)
	checkCheck(t, []api.File{{Path: strings.Repeat("a", 48), Data: "a\nb\x00\xff"}}, api.OK)
}

// Words: the limits, and one past each.
func TestCheckLimits(t *testing.T) {
	checkCheck(t, many(64, 0), api.OK)
	checkCheck(t, many(65, 0), api.ErrFull)
	checkCheck(t, many(5000, 0), api.ErrFull)
	checkCheck(t, many(1, 4096), api.OK)
	checkCheck(t, many(1, 4097), api.ErrTooLarge)
	checkCheck(t, many(4, 4096), api.OK)
	checkCheck(t, many(64, 256), api.OK)
	checkCheck(t, many(64, 257), api.ErrFull)
	checkCheck(t, many(65, 252), api.ErrFull)
	checkCheck(t, many(63, 261), api.ErrFull)
	checkCheck(t, append(many(4, 4096), api.File{Path: "g"}), api.OK)
	checkCheck(t, append(many(4, 4096), api.File{Path: "g", Data: "x"}), api.ErrFull)
	checkCheck(t, append(many(4, 4095), api.File{Path: "g", Data: "xxxx"}), api.OK)
	checkCheck(t, append(many(4, 4095), api.File{Path: "g", Data: "xxxxx"}), api.ErrFull)
	checkCheck(t, tree(strings.Repeat("a", 49)), api.ErrName)
	// Bytes are counted, not characters, and those of paths are not.
	checkCheck(t, []api.File{{Path: "a", Data: strings.Repeat("\u00e4", 2048)}}, api.OK)
	checkCheck(t, []api.File{{Path: "a", Data: strings.Repeat("\u00e4", 2048) + "x"}}, api.ErrTooLarge)
	long := many(64, 256)
	for i := range long {
		long[i].Path += strings.Repeat("x", 42)
	}
	checkCheck(t, long, api.OK)
}

// The table of errors: each of them, at whatever file.
func TestCheckErrors(t *testing.T) {
	for _, path := range wrongPaths {
		for at := range 4 {
			checkCheck(t, slices.Insert(tree("a|b|c"), at, api.File{Path: path}), api.ErrName)
		}
	}
	for at := range 4 {
		checkCheck(t, slices.Insert(tree("a|b|d"), at, api.File{Path: "c", Data: strings.Repeat("x", 4097)}), api.ErrTooLarge)
	}
	for _, text := range []string{"b|a", "a|a", "a x|a y", "a|b|b", "a|a|b", "a|c|b", "b|c|a", "a|A", "a/b|a", "a/b|a-b", "a/b|a.b", "a0|a/b", "aa|a", "ab|a/b|a-b"} {
		checkCheck(t, tree(text), api.ErrForm)
	}
	for _, text := range []string{
		"a|a/b", "a|a-b|a/b", "a|a.b|a/b", "a|a-|a-b|a.|a.b|a/b", "a|a-b/c|a/b", "a|a/b/c/d", "a|b|b/c", "a/b|a/b/c", "a/b|a/b-c|a/b.c|a/b/c", "a/b|a/b.c/d|a/b/c/d/e|b", "-|-/-", ".a|.a/.b", "A|A/b|a", "0|a|a/b|b",
	} {
		checkCheck(t, tree(text), api.ErrState)
	}
}

// The table of errors: of several the one that comes first there, and of files' own the first file's.
func TestCheckFirst(t *testing.T) {
	large := strings.Repeat("x", 4097)
	checkCheck(t, []api.File{{Path: "a b", Data: large}}, api.ErrName)
	checkCheck(t, []api.File{{Path: "a", Data: large}, {Path: "a b"}}, api.ErrTooLarge)
	checkCheck(t, []api.File{{Path: "a b"}, {Path: "a", Data: large}}, api.ErrName)
	checkCheck(t, []api.File{{Path: "b"}, {Path: "a"}, {Path: ""}}, api.ErrName)
	checkCheck(t, []api.File{{Path: "b"}, {Path: "a", Data: large}}, api.ErrTooLarge)
	checkCheck(t, []api.File{{Path: "a"}, {Path: "a/b"}, {Path: "c", Data: large}}, api.ErrTooLarge)
	checkCheck(t, tree("a|a/b|c|b"), api.ErrForm)
	checkCheck(t, tree("a|a/b|a/b"), api.ErrForm)
	checkCheck(t, tree("a/b|a"), api.ErrForm)
	full := many(65, 256)
	checkCheck(t, append(slices.Clone(full), api.File{Path: "g/"}), api.ErrName)
	checkCheck(t, append(slices.Clone(full), api.File{Path: "g", Data: large}), api.ErrTooLarge)
	checkCheck(t, append(slices.Clone(full), api.File{Path: "a"}), api.ErrForm)
	checkCheck(t, append(slices.Clone(full), api.File{Path: "f10000/a"}), api.ErrForm)
	checkCheck(t, slices.Insert(slices.Clone(full), 1, api.File{Path: "f10000/a"}), api.ErrState)
	checkCheck(t, append(slices.Clone(full), tree("g|g/a")...), api.ErrState)
	checkCheck(t, append(many(1000, 0), tree("g|g-h|g/a")...), api.ErrState)
}

// P17.1.
func TestSize(t *testing.T) {
	for _, c := range []struct {
		l    []api.File
		want int
	}{
		{nil, 0}, {[]api.File{}, 0}, {tree("a"), 0}, {tree("a x"), 1}, {tree("a xyz|b|c/d uv"), 5}, {many(64, 256), 16384}, {many(3, 5000), 15000}, {many(100, 1000), 100000},
		{tree("b xy|a x|a z|a/b u| v"), 6}, // no tree: all files, each as often as it stands there
		{[]api.File{{Path: "a", Data: "\u00e4\x00\n"}}, 4},
	} {
		if got := files.Size(c.l); got != c.want {
			t.Errorf("Size(%s), of %d: %d; want %d", short(c.l), len(c.l), got, c.want)
		}
	}
}

func checkGet(t *testing.T, l []api.File, path, want string, wantIs bool) {
	t.Helper()
	if got, is := files.Get(l, path); got != want || is != wantIs {
		t.Errorf("Get(%s; %q): %q, %t", short(l), path, got, is)
	}
}

// P17.1: the first file at a path, of a list that is no tree, too.
func TestGet(t *testing.T) {
	l := tree("a/b x|a/c|b yz")
	checkGet(t, l, "a/b", "x", true)
	checkGet(t, l, "a/c", "", true)
	checkGet(t, l, "b", "yz", true)
	for _, path := range []string{"", "a", "a/", "a/a", "a/b/c", "c", "A/B", "b ", "a/bb", "/", "\x00", strings.Repeat("a", 1000)} {
		checkGet(t, l, path, "", false)
		checkGet(t, nil, path, "", false)
	}
	l = tree("c 1|a 2|c 3|b 4|a 5|b/c 6|b 7| 8|a//b 9")
	for path, want := range map[string]string{"c": "1", "a": "2", "b": "4", "b/c": "6", "": "8", "a//b": "9"} {
		checkGet(t, l, path, want, true)
	}
	l = many(1000, 1)
	for _, f := range l {
		checkGet(t, l, f.Path, "x", true)
	}
}

// P17.1: the same files, one by one.
func TestSame(t *testing.T) {
	texts := []string{"", "a", "a x", "a x|b", "b|a x", "b", "a|a x", "a/b x", "a xx", "a x|b y", "a x|a x", "|", " x", "A x"}
	for i, a := range texts {
		for k, b := range texts {
			if files.Same(tree(a), tree(b)) != (i == k) {
				t.Errorf("Same(%s; %s): %t", a, b, i != k)
			}
		}
	}
	if !files.Same(nil, []api.File{}) || !files.Same([]api.File{}, nil) || files.Same(nil, tree("a")) || files.Same([]api.File{{}}, nil) {
		t.Error("Same of no files")
	}
}

// P17.1: lists drawn at random.
func TestCheckDrawn(t *testing.T) {
	r := rand.New(rand.NewPCG(17, 1))
	seen := map[api.Errno]int{}
	for range 20000 {
		l := drawn(r, 6, 3)
		if r.IntN(8) == 0 {
			l = slices.Insert(l, r.IntN(len(l)+1), api.File{Path: wrongPaths[r.IntN(len(wrongPaths))]})
		}
		if r.IntN(16) == 0 {
			l = append(l, api.File{Path: "z", Data: strings.Repeat("x", 4090+r.IntN(12))})
		}
		if r.IntN(16) == 0 {
			l = listOf(mapOf(append(l, many(57+r.IntN(9), 0)...)))
		}
		want := checkTold(l)
		checkCheck(t, l, want)
		seen[want]++
	}
	for _, e := range []api.Errno{api.OK, api.ErrName, api.ErrTooLarge, api.ErrForm, api.ErrState, api.ErrFull} {
		if seen[e] < 50 {
			t.Errorf("only %d of the lists drawn are answered with %d", seen[e], int(e))
		}
	}
}
