package expand_test

import (
	"fmt"
	"strings"
	"testing"

	"bastion/api"
	"bastion/expand"
)

// P13.2: the items on and paths, with their numbers; nothing else.
func TestHeads(t *testing.T) {
	checkHeads(t, files("ci", ""))
	checkHeads(t, files("ci", "on main v*||paths src/** doc|on dev"), "1 on main v*", "3 paths src/** doc", "4 on dev")
	checkHeads(t, files("ci", "var a 1|on a|var on 2|paths b|template on|do on x|job paths|do paths y"), "2 on a", "4 paths b")
	checkHeads(t, files("ci", "job a|do x|template t|var b 1"))
	// Variables are not put in, and what is wrong with them, or with jobs and templates, is told by Expand alone.
	checkHeads(t, files("ci", "var v 1|on $v $w $"), "2 on $v $w $")
	checkHeads(t, files("ci", "include a|on ci|var v $w|var w $|job j|use none|template t|var v $w|job k|use t", "a", "on a|job j|template t"), "1 on a", "2 on ci")
}

// P13.2: what is included stands at the place of the include, in their row.
func TestHeadsRow(t *testing.T) {
	checkHeads(t, files("ci", "on a|include x|paths b|include y|on c", "x", "on x||paths x", "y", "|on y"), "1 on a", "1 on x", "3 paths x", "3 paths b", "2 on y", "5 on c")
	checkHeads(t, files("ci", "include x|on ci", "x", "include y|on x|include z", "y", "on y|include z|on y2", "z", "on z"), "1 on y", "1 on z", "3 on y2", "2 on x", "2 on ci")
	// No file is taken in twice.
	checkHeads(t, files("ci", "include x|on ci|include x|include y|include x", "x", "on x", "y", "include x|on y|include x"), "1 on x", "2 on ci", "2 on y")
	// Files at other paths are other files, whatever they have.
	checkHeads(t, files("ci", "include a/x|include a/X|include a/x.y", "a/x", "on same", "a/X", "on same", "a/x.y", "on same"), "1 on same", "1 on same", "1 on same")
}

// P13.2: a file is the first one at its path.
func TestFirstFile(t *testing.T) {
	checkHeads(t, files("x", "on x1", "ci", "include x|on ci1", "x", "on x2", "ci", "on ci2", "ci", "\""), "1 on x1", "2 on ci1")
	checkWrong(t, files("x", "\"", "ci", "include x", "x", "on x2"), "x", 1, api.ErrForm)
}

// P13.2, P13.3: any path may be asked for; one of no file is there at the line 0.
func TestAnyPath(t *testing.T) {
	for _, path := range []string{"ci", "", "a b", "../x", "/", "\xff\x00", strings.Repeat("p", 1000)} {
		tree := []api.File{{Path: path, Data: "on x\njob a"}}
		check(t, tree, path, nil)
		if l, _, e := expand.Heads(tree, path); len(l) != 1 || e != api.OK {
			t.Errorf("Heads at %.50q: %v, %d", path, l, int(e))
		}
		if l, _, e := expand.Expand(tree, path, nil); len(l) != 1 || l[0].Path != path || e != api.OK {
			t.Errorf("Expand at %.50q: %v, %d", path, l, int(e))
		}
		for _, other := range []string{path + "x", "CI", path + "/", " " + path} {
			for _, tree := range [][]api.File{tree, nil, {}} {
				check(t, tree, other, nil)
				if l, at, e := expand.Heads(tree, other); l != nil || at != (expand.Where{Path: other}) || e != api.ErrNone {
					t.Errorf("Heads at %.50q: %v, %v, %d", other, l, at, int(e))
				}
			}
		}
	}
}

// chain are n files within one another, from ci on; the last one has this text.
func chain(n int, last string) []api.File {
	path := func(i int) string {
		if i == 1 {
			return "ci"
		}
		return fmt.Sprint("f", i)
	}
	var l []string
	for i := 1; i < n; i++ {
		l = append(l, path(i), fmt.Sprintf("on h%d|include %s|job j%d", i, path(i+1), i))
	}
	return files(append(l, path(n), last)...)
}

// The table of errors: MaxDepth files within one another, and one more.
func TestDepth(t *testing.T) {
	if expand.MaxDepth != 8 {
		t.Errorf("MaxDepth: %d", expand.MaxDepth)
	}
	checkHeads(t, chain(8, "|on end"), "1 on h1", "1 on h2", "1 on h3", "1 on h4", "1 on h5", "1 on h6", "1 on h7", "2 on end")
	checkWrong(t, chain(9, "on end"), "f8", 2, api.ErrDeep)
	checkWrong(t, chain(9, "\""), "f8", 2, api.ErrDeep)
	checkWrong(t, chain(30, ""), "f8", 2, api.ErrDeep)
	// Not within one another they may be many.
	checkHeads(t, append(chain(8, ""), files("a", "on a")...), "1 on h1", "1 on h2", "1 on h3", "1 on h4", "1 on h5", "1 on h6", "1 on h7")
	var l []string
	ci := ""
	for i := range 40 {
		ci += fmt.Sprintf("include f%d|", i)
		l = append(l, fmt.Sprint("f", i), "var a x")
	}
	if _, _, e := check(t, files(append(l, "ci", ci)...), "ci", nil); e != api.OK {
		t.Errorf("40 files that are included: %d", int(e))
	}
	// There are none such, or it is being taken in: that goes ahead of too deep; what is taken in already is not taken in there.
	checkWrong(t, chain(8, "include no"), "f8", 1, api.ErrNone)
	checkWrong(t, chain(8, "|include f3"), "f8", 2, api.ErrCycle)
	checkWrong(t, chain(8, "|include f8"), "f8", 2, api.ErrCycle)
	deep := chain(8, "include x|on end")
	deep[0].Data = "include x\n" + deep[0].Data
	checkHeads(t, append(deep, api.File{Path: "x", Data: "on x"}), "1 on x", "2 on h1", "1 on h2", "1 on h3", "1 on h4", "1 on h5", "1 on h6", "1 on h7", "2 on end")
}

// The table of errors: a file that is being taken in.
func TestCycle(t *testing.T) {
	checkWrong(t, files("ci", "|include ci|"), "ci", 2, api.ErrCycle)
	checkWrong(t, files("ci", "include a", "a", "on x|include ci"), "a", 2, api.ErrCycle)
	checkWrong(t, files("ci", "include a", "a", "include b", "b", "||include a"), "b", 3, api.ErrCycle)
	checkWrong(t, files("ci", "include a|include b", "a", "on a", "b", "include a|include b"), "b", 2, api.ErrCycle)
	// Those that include one another, but are not included, are in nobody's way.
	checkHeads(t, files("ci", "on x", "a", "include b", "b", "include a"), "1 on x")
	// One that includes ci itself is no cycle of its own.
	if _, at, e := check(t, files("a", "include ci", "ci", "on x"), "a", nil); e != api.OK || at != (expand.Where{}) {
		t.Errorf("ci taken in by a: %v, %d", at, int(e))
	}
}

// The table of errors: files are taken in as they come, and the first thing that is wrong is told.
func TestTakingInOrder(t *testing.T) {
	checkWrong(t, files(), "ci", 0, api.ErrNone)
	checkWrong(t, files("ci", "||include x"), "ci", 3, api.ErrNone)
	checkWrong(t, files("ci", "include a", "a", "|include b"), "a", 2, api.ErrNone)
	// What desc.Parse answers of a file, at whatever line, goes ahead of its includes.
	checkWrong(t, files("ci", "include ci|include x||job A"), "ci", 4, api.ErrName)
	checkWrong(t, files("ci", "include a|include x", "a", "on a|job j|include b", "b", "\""), "a", 3, api.ErrForm)
	checkWrong(t, files("ci", "include a|include b", "a", "on a|tries 9", "b", "job A"), "a", 2, api.ErrForm)
	checkWrong(t, files("ci", "include b|include a", "a", "on a|tries 9", "b", "job A"), "b", 1, api.ErrName)
	checkWrong(t, files("ci", "include a|include x", "a", "include b", "b", "job j|tries 9"), "b", 2, api.ErrArg)
	checkWrong(t, files("ci", "include a|include x", "a", "include b", "b", "job j|tries 1"), "ci", 2, api.ErrNone)
	checkWrong(t, files("ci", "include a|include x", "a", "include b|include x|include a", "b", ""), "a", 2, api.ErrNone)
	checkWrong(t, files("ci", "include a|include x", "a", "include b|include a|include x", "b", ""), "a", 2, api.ErrCycle)
	for data, e := range map[string]api.Errno{"job a|job a": api.ErrTwice, "job a|manual|manual": api.ErrTwice, "on " + strings.Repeat("x", 398): api.ErrTooLarge, "include ../x": api.ErrForm, "needs A": api.ErrForm, strings.Repeat("on x|", 41): api.ErrFull} {
		line := 1 + strings.Count(strings.TrimSuffix(data, "|"), "|")
		checkWrong(t, files("ci", data+"|include x|job A"), "ci", line, e)
		checkWrong(t, files("ci", "||include lib|include x|", "lib", "|"+data+"|\""), "lib", line+1, e)
	}
}
