package files_test

import (
	"math/rand/v2"
	"strings"
	"testing"

	"bastion/api"
)

// P17.2, example 2.
func TestPut(t *testing.T) {
	for _, c := range []struct{ l, path, data, want string }{
		{"a/b x", "a/b", "y", "a/b y"},
		{"a/b x", "a/a", "y", "a/a y|a/b x"},
		{"", "a", "", "a"},
		{"", "a/b/c", "x", "a/b/c x"},
		{"b x", "a", "y", "a y|b x"},
		{"b x", "c", "y", "b x|c y"},
		{"a 1|c 3", "b", "2", "a 1|b 2|c 3"},
		{"a 1|b 2|c 3", "a", "", "a|b 2|c 3"},
		{"a 1|b 2|c 3", "b", "2", "a 1|b 2|c 3"},
		{"a 1|b 2|c 3", "c", "xyz", "a 1|b 2|c xyz"},
		{"a/b x", "a-b", "y", "a-b y|a/b x"},
		{"a/b x", "a.b", "y", "a.b y|a/b x"},
		{"a/b x", "a0", "y", "a/b x|a0 y"},
		{"a/b x", "a/bb", "y", "a/b x|a/bb y"},
		{"aa x", "a", "y", "a y|aa x"},
		{"a x", "a-b/c", "y", "a x|a-b/c y"},
		{"a/b/c x", "a/b-c", "y", "a/b-c y|a/b/c x"},
		{"a x", "A", "y", "A y|a x"},
		{"a/b x", "b/a", "y", "a/b x|b/a y"},
	} {
		checkPut(t, tree(c.l), c.path, c.data, tree(c.want), api.OK)
	}
	checkPut(t, nil, "a", "\x00\n\xff", []api.File{{Path: "a", Data: "\x00\n\xff"}}, api.OK)
}

// The table of errors: what is no tree, whatever is put there.
func TestPutNoTree(t *testing.T) {
	for _, text := range []string{"b|a", "a|a", "a|a/b", "a|a-b|a/b", "", "a b/|", "/a"} {
		l := tree(text)
		if text == "" {
			l = []api.File{{}}
		}
		for _, path := range []string{"a", "b", "c", "", "a/b/c"} {
			checkPut(t, l, path, "", nil, api.ErrForm)
			checkPut(t, l, path, strings.Repeat("x", 4097), nil, api.ErrForm)
			checkDel(t, l, path, nil, api.ErrForm)
		}
	}
	for _, l := range [][]api.File{many(65, 0), many(1, 4097), many(5, 4000)} {
		checkPut(t, l, "f10000", "", nil, api.ErrForm)
		checkPut(t, l, "f10000/a", "", nil, api.ErrForm)
		checkPut(t, l, "", "", nil, api.ErrForm)
		checkDel(t, l, "f10000", nil, api.ErrForm)
		checkDel(t, l, "none", nil, api.ErrForm)
	}
}

// The table of errors, example 2: each of them, and of several the one that comes first there.
func TestPutErrors(t *testing.T) {
	large := strings.Repeat("x", 4097)
	for _, text := range []string{"", "a/b x", "a x|b y"} {
		for _, path := range wrongPaths {
			checkPut(t, tree(text), path, "", nil, api.ErrName)
			checkPut(t, tree(text), path, large, nil, api.ErrName)
		}
		checkPut(t, tree(text), "a/b", large, nil, api.ErrTooLarge)
		checkPut(t, tree(text), "a", large, nil, api.ErrTooLarge)
	}
	for _, c := range []struct{ l, path string }{
		{"a/b x", "a"}, {"a/b x", "a/b/c"}, {"a", "a/b"}, {"a", "a/b/c/d"}, {"a|a-b|a0", "a/b"}, {"a-b|a.b|a/b", "a"}, {"a-b|a.b|a/b|a0", "a/b/c"}, {"a/b/c|a/d", "a/b"}, {"a/b/c|a/d", "a"}, {"a/b|a/b-c", "a/b/c"}, {"0|a/b/c/d/e|b", "a/b/c"}, {"0|b|c/d", "c"}, {"0/1|b|c", "0"},
	} {
		checkPut(t, tree(c.l), c.path, "", nil, api.ErrState)
	}
	full := many(64, 256)
	checkPut(t, full, "a b", large, nil, api.ErrName)
	checkPut(t, full, "g", large, nil, api.ErrTooLarge)
	checkPut(t, full, "f10000/a", "x", nil, api.ErrState)
	checkPut(t, full, "g", "", nil, api.ErrFull)
}

// Words: the limits, and one past each; what is replaced counts no more.
func TestPutLimits(t *testing.T) {
	checkPut(t, many(63, 0), "f10063", "", many(64, 0), api.OK)
	checkPut(t, many(64, 0), "f10064", "", nil, api.ErrFull)
	checkPut(t, many(64, 1), "f10063", "x", many(64, 1), api.OK)
	checkPut(t, many(3, 4096), "f10003", strings.Repeat("x", 4096), many(4, 4096), api.OK)
	checkPut(t, many(4, 4096), "f10003", strings.Repeat("x", 4096), many(4, 4096), api.OK)
	checkPut(t, many(4, 4096), "f10004", "x", nil, api.ErrFull)
	checkPut(t, many(4, 4096), "f10004", "", append(many(4, 4096), api.File{Path: "f10004"}), api.OK)
	checkPut(t, many(4, 4096), "f10000", strings.Repeat("x", 4097), nil, api.ErrTooLarge)
	checkPut(t, many(64, 256), "f10063", strings.Repeat("x", 256), many(64, 256), api.OK)
	checkPut(t, many(64, 256), "f10063", strings.Repeat("x", 257), nil, api.ErrFull)
	checkPut(t, many(64, 256), "f10000", strings.Repeat("x", 4096), nil, api.ErrFull)
	short, _ := putTold(many(64, 256), "f10030", "")
	checkPut(t, many(64, 256), "f10030", "", short, api.OK)
	checkPut(t, short, "f10000", strings.Repeat("y", 513), nil, api.ErrFull)
	want, _ := putTold(short, "f10000", strings.Repeat("y", 512))
	checkPut(t, short, "f10000", strings.Repeat("y", 512), want, api.OK)
}

// P17.2.
func TestDel(t *testing.T) {
	for _, c := range []struct{ l, path, want string }{
		{"a", "a", ""}, {"a x|b y", "a", "b y"}, {"a x|b y", "b", "a x"}, {"a 1|b 2|c 3", "b", "a 1|c 3"}, {"a/b x|a/c y", "a/b", "a/c y"}, {"a-b|a/b|a0", "a/b", "a-b|a0"},
	} {
		checkDel(t, tree(c.l), c.path, tree(c.want), api.OK)
	}
	checkDel(t, many(64, 256), "f10063", many(63, 256), api.OK)
}

// The table of errors: no file at this path, a folder neither.
func TestDelNone(t *testing.T) {
	for _, text := range []string{"", "a/b x", "a-b|a/b|a/c|c/d"} {
		for _, path := range append([]string{"a", "b", "c", "a/a", "a/b/c", "a/bb", "a/", "A/b", "c/", "\x00", "\xff"}, wrongPaths...) {
			checkDel(t, tree(text), path, nil, api.ErrNone)
		}
	}
	checkDel(t, many(64, 0), "f10064", nil, api.ErrNone)
	checkDel(t, many(64, 0), "f1", nil, api.ErrNone)
}

// P17.1, P17.2: all lists of up to three files, and each file.
func TestAllShort(t *testing.T) {
	paths := append(somePaths[:8:8], "a/")
	lists := [][]api.File{nil}
	for from := 0; from < len(lists); from++ {
		l := lists[from]
		if len(l) == 3 {
			break
		}
		for i, path := range paths {
			lists = append(lists, append(l[:len(l):len(l)], api.File{Path: path, Data: strings.Repeat("x", i)}))
		}
	}
	for _, l := range lists {
		for _, path := range paths {
			checkOne(t, l, path, "new")
		}
	}
	for _, a := range lists {
		if len(a) > 2 && checkTold(a) != api.OK {
			continue
		}
		for _, b := range lists {
			if len(b) < 3 {
				checkTwo(t, a, b)
				checkTwo(t, b, a)
			}
		}
	}
}

// P17.2: lists and files drawn at random.
func TestDrawn(t *testing.T) {
	r := rand.New(rand.NewPCG(17, 2))
	seen := map[api.Errno]int{}
	for range 10000 {
		l := drawn(r, 6, 3)
		path := somePaths[r.IntN(len(somePaths))]
		if r.IntN(10) == 0 {
			path = wrongPaths[r.IntN(len(wrongPaths))]
		}
		data := drawnData(r, 5)
		if r.IntN(10) == 0 {
			data = strings.Repeat("x", 4090+r.IntN(12))
		}
		if r.IntN(5) == 0 {
			l = listOf(mapOf(append(l, many(57+r.IntN(9), r.IntN(262))...)))
		}
		checkOne(t, l, path, data)
		_, e := putTold(l, path, data)
		seen[e]++
		checkTwo(t, l, drawn(r, 5, 3))
	}
	for _, e := range []api.Errno{api.OK, api.ErrForm, api.ErrName, api.ErrTooLarge, api.ErrState, api.ErrFull} {
		if seen[e] < 100 {
			t.Errorf("only %d of the files drawn are answered with %d", seen[e], int(e))
		}
	}
}
