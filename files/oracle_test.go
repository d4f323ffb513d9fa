package files_test

import (
	"maps"
	"math/rand/v2"
	"regexp"
	"slices"
	"strings"
	"testing"

	"bastion/api"
	"bastion/files"
	"bastion/glob"
)

// tree are files told by a text: path and data with a blank between, a | behind each file but the last one.
func tree(text string) []api.File {
	var l []api.File
	if text == "" {
		return l
	}
	for _, one := range strings.Split(text, "|") {
		path, data, _ := strings.Cut(one, " ")
		l = append(l, api.File{Path: path, Data: data})
	}
	return l
}

// short is the text of such a list, for faults that a test tells.
func short(l []api.File) string {
	var parts []string
	for _, f := range l[:min(len(l), 12)] {
		parts = append(parts, f.Path[:min(len(f.Path), 60)]+" "+f.Data[:min(len(f.Data), 12)])
	}
	return strings.Join(parts, "|")
}

// What the chapter says, told a second time: paths by expressions, trees as maps, and each file held against each other one.

var (
	aPath = regexp.MustCompile(`\A[A-Za-z0-9._-]+(/[A-Za-z0-9._-]+)*\z`)
	aDot  = regexp.MustCompile(`(\A|/)\.\.?(/|\z)`)
)

func isPathTold(p string) bool {
	return len(p) <= 48 && aPath.MatchString(p) && !aDot.MatchString(p)
}

func inWayTold(p, q string) bool {
	return p == q || strings.HasPrefix(p, q+"/") || strings.HasPrefix(q, p+"/")
}

func pathsOf(l []api.File) []string {
	var paths []string
	for _, f := range l {
		paths = append(paths, f.Path)
	}
	return paths
}

func fileTold(f api.File) api.Errno {
	if !isPathTold(f.Path) {
		return api.ErrName
	}
	if len(f.Data) > 4096 {
		return api.ErrTooLarge
	}
	return api.OK
}

func tooMuchTold(l []api.File) bool {
	var all strings.Builder
	for _, f := range l {
		all.WriteString(f.Data)
	}
	return len(l) > 64 || all.Len() > 16384
}

// checkTold is what Check must answer.
func checkTold(l []api.File) api.Errno {
	for _, f := range l {
		if e := fileTold(f); e != api.OK {
			return e
		}
	}
	paths := pathsOf(l)
	rising := slices.Clone(paths)
	slices.Sort(rising)
	if !slices.Equal(slices.Compact(rising), paths) {
		return api.ErrForm
	}
	for i, p := range paths {
		for _, q := range paths[:i] {
			if inWayTold(p, q) {
				return api.ErrState
			}
		}
	}
	if tooMuchTold(l) {
		return api.ErrFull
	}
	return api.OK
}

func mapOf(l []api.File) map[string]string {
	m := map[string]string{}
	for _, f := range l {
		m[f.Path] = f.Data
	}
	return m
}

func listOf(m map[string]string) []api.File {
	var l []api.File
	for _, path := range slices.Sorted(maps.Keys(m)) {
		l = append(l, api.File{Path: path, Data: m[path]})
	}
	return l
}

// fullTold is the list of a map, if it has room in a tree.
func fullTold(m map[string]string) ([]api.File, api.Errno) {
	l := listOf(m)
	if tooMuchTold(l) {
		return nil, api.ErrFull
	}
	return l, api.OK
}

// putTold is what Put must answer.
func putTold(l []api.File, path, data string) ([]api.File, api.Errno) {
	if checkTold(l) != api.OK {
		return nil, api.ErrForm
	}
	if e := fileTold(api.File{Path: path, Data: data}); e != api.OK {
		return nil, e
	}
	m := mapOf(l)
	for other := range m {
		if other != path && inWayTold(other, path) {
			return nil, api.ErrState
		}
	}
	m[path] = data
	return fullTold(m)
}

// delTold is what Del must answer.
func delTold(l []api.File, path string) ([]api.File, api.Errno) {
	if checkTold(l) != api.OK {
		return nil, api.ErrForm
	}
	m := mapOf(l)
	if _, is := m[path]; !is {
		return nil, api.ErrNone
	}
	delete(m, path)
	return listOf(m), api.OK
}

// layTold is what Lay must answer.
func layTold(a, b []api.File) ([]api.File, api.Errno) {
	if checkTold(a) != api.OK || checkTold(b) != api.OK {
		return nil, api.ErrForm
	}
	m := mapOf(a)
	for _, f := range b {
		maps.DeleteFunc(m, func(path, _ string) bool { return inWayTold(path, f.Path) })
	}
	maps.Copy(m, mapOf(b))
	return fullTold(m)
}

// pickTold is what Pick must answer.
func pickTold(l []api.File, patterns []string) []api.File {
	return slices.DeleteFunc(slices.Clone(l), func(f api.File) bool {
		return !slices.ContainsFunc(patterns, func(pattern string) bool { return glob.Match(pattern, f.Path) })
	})
}

// checkCheck tells where Check is not as it must be.
func checkCheck(t *testing.T, l []api.File, want api.Errno) {
	t.Helper()
	if e := files.Check(l); e != want {
		t.Errorf("Check(%s), of %d: %d; want %d", short(l), len(l), int(e), int(want))
	}
}

// checkTree tells where a list and an error are not those wanted.
func checkTree(t *testing.T, what string, got []api.File, e api.Errno, want []api.File, wantE api.Errno) {
	t.Helper()
	if !slices.Equal(got, want) || e != wantE {
		t.Errorf("%s: %s, of %d, %d; want %s, of %d, %d", what, short(got), len(got), int(e), short(want), len(want), int(wantE))
	}
}

func checkPut(t *testing.T, l []api.File, path, data string, want []api.File, wantE api.Errno) {
	t.Helper()
	got, e := files.Put(l, path, data)
	checkTree(t, "Put("+short(l)+"; "+path+")", got, e, want, wantE)
}

func checkDel(t *testing.T, l []api.File, path string, want []api.File, wantE api.Errno) {
	t.Helper()
	got, e := files.Del(l, path)
	checkTree(t, "Del("+short(l)+"; "+path+")", got, e, want, wantE)
}

func checkLay(t *testing.T, a, b, want []api.File, wantE api.Errno) {
	t.Helper()
	got, e := files.Lay(a, b)
	checkTree(t, "Lay("+short(a)+"; "+short(b)+")", got, e, want, wantE)
}

func checkPick(t *testing.T, l []api.File, patterns []string, want []api.File) {
	t.Helper()
	checkTree(t, "Pick("+short(l)+"; "+strings.Join(patterns, " ")+")", files.Pick(l, patterns), api.OK, want, api.OK)
}

// checkOne tells where any call of one list, and a file, is not as it must be.
func checkOne(t *testing.T, l []api.File, path, data string) {
	t.Helper()
	checkCheck(t, l, checkTold(l))
	put, e := putTold(l, path, data)
	checkPut(t, l, path, data, put, e)
	rest, e := delTold(l, path)
	checkDel(t, l, path, rest, e)
	patterns := []string{path, "a*", "**/b"}
	checkPick(t, l, patterns, pickTold(l, patterns))
}

// checkTwo tells where a call of two lists is not as it must be.
func checkTwo(t *testing.T, a, b []api.File) {
	t.Helper()
	want, e := layTold(a, b)
	checkLay(t, a, b, want, e)
	same := slices.EqualFunc(a, b, func(f, g api.File) bool { return f.Path == g.Path && f.Data == g.Data })
	if got := files.Same(a, b); got != same {
		t.Errorf("Same(%s; %s): %t", short(a), short(b), got)
	}
}

// somePaths are such that many of them are in the way of one another, and that others stand between such ones.
var somePaths = []string{"a", "b", "a/a", "a/b", "a-b", "a.b", "a0", "a/b/c", "a/b-c", "B", "b/a", "a-b/c", "A/b", "..x", "aa", "a/b/c/d"}

// wrongPaths are none.
var wrongPaths = []string{"", "/", "a/", "/a", "a//b", "a b", ".", "a/..", strings.Repeat("a", 49)}

// drawn is a list of up to n files, with data of up to size bytes, that may be no tree.
func drawn(r *rand.Rand, n, size int) []api.File {
	var l []api.File
	for range r.IntN(n + 1) {
		l = append(l, api.File{Path: somePaths[r.IntN(len(somePaths))], Data: drawnData(r, size)})
	}
	if r.IntN(8) > 0 {
		l = listOf(mapOf(l))
	}
	return l
}

func drawnData(r *rand.Rand, size int) string {
	return strings.Repeat(string([]byte{byte(r.IntN(256))}), r.IntN(size+1))
}

// drawnTree is a tree of up to n files, with paths that are drawn byte by byte.
func drawnTree(r *rand.Rand, n, size int) []api.File {
	m := map[string]string{}
	for range r.IntN(n + 1) {
		path := drawnPath(r)
		m[path] = drawnData(r, size)
		if l := listOf(m); checkTold(l) != api.OK {
			delete(m, path)
		}
	}
	return listOf(m)
}

func drawnPath(r *rand.Rand) string {
	const marks = "aaab-.0/"
	for {
		b := make([]byte, 1+r.IntN(6))
		for i := range b {
			b[i] = marks[r.IntN(len(marks))]
		}
		if isPathTold(string(b)) {
			return string(b)
		}
	}
}
