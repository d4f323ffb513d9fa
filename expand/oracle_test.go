package expand_test

import (
	"fmt"
	"regexp"
	"slices"
	"strings"
	"testing"

	"bastion/api"
	"bastion/desc"
	"bastion/expand"
)

// What the chapter says, told a second time: variables by an expression, files and sections by lists that are gone through.

var marks = regexp.MustCompile(`\$(?:\$|[a-z][a-z0-9_-]*|\{[a-z][a-z0-9_-]{0,23}\})?`)

// substituted is what Subst must answer.
func substituted(text string, vars []api.Var) (string, api.Errno) {
	e := api.OK
	s := marks.ReplaceAllStringFunc(text, func(mark string) string {
		name := strings.Trim(mark, "${}")
		switch {
		case e != api.OK:
			return ""
		case mark == "$$":
			return "$"
		case mark == "$" || len(name) > 24:
			e = api.ErrForm
			return ""
		}
		for _, v := range slices.Backward(vars) {
			if v.Name == name {
				return v.Value
			}
		}
		e = api.ErrName
		return ""
	})
	if e == api.OK && len(s) > 400 {
		e = api.ErrTooLarge
	}
	if e != api.OK {
		return "", e
	}
	return s, api.OK
}

// wrong is thrown where something is.
type wrong struct {
	at expand.Where
	e  api.Errno
}

// throw throws an error, if it is one.
func throw(path string, no int, e api.Errno) {
	if e != api.OK {
		panic(wrong{expand.Where{Path: path, Line: no}, e})
	}
}

// caught does something, and answers what it throws.
func caught(do func()) (at expand.Where, e api.Errno) {
	defer func() {
		if w, is := recover().(wrong); is {
			at, e = w.at, w.e
		}
	}()
	do()
	return expand.Where{}, api.OK
}

// found is an item, or a section, with the path at which it stands.
type found[T any] struct {
	path string
	it   T
}

// telling is what is told of a tree.
type telling struct {
	tree     []api.File
	done     []string // paths
	head     []found[desc.Item]
	sections []found[desc.Section]
}

// include takes a file in; around are the paths of those that are being taken in.
func (t *telling) include(path string, from string, no int, around ...string) {
	place := slices.IndexFunc(t.tree, func(f api.File) bool { return f.Path == path })
	if place < 0 {
		throw(from, no, api.ErrNone)
	}
	if slices.Contains(t.done, path) {
		return
	}
	if slices.Contains(around, path) {
		throw(from, no, api.ErrCycle)
	}
	if len(around) == 8 {
		throw(from, no, api.ErrDeep)
	}
	doc, at, e := desc.Parse(t.tree[place].Data)
	throw(path, at, e)
	for _, item := range doc.Head {
		if item.Word == "include" {
			t.include(item.Args[0], path, item.No, append(slices.Clone(around), path)...)
		} else {
			t.head = append(t.head, found[desc.Item]{path, item})
		}
	}
	for _, s := range doc.Sections {
		t.sections = append(t.sections, found[desc.Section]{path, s})
	}
	t.done = append(t.done, path)
}

// headsOf is what Heads must answer.
func headsOf(tree []api.File, path string) ([]desc.Item, expand.Where, api.Errno) {
	t := telling{tree: tree}
	var l []desc.Item
	at, e := caught(func() { t.include(path, path, 0) })
	if e == api.OK {
		for _, item := range t.head {
			if item.it.Word == "on" || item.it.Word == "paths" {
				l = append(l, item.it)
			}
		}
	}
	return l, at, e
}

// declared is what Expand must answer.
func declared(tree []api.File, path string, given []api.Var) ([]expand.Decl, expand.Where, api.Errno) {
	t := telling{tree: tree}
	var l []expand.Decl
	at, e := caught(func() {
		t.include(path, path, 0)
		t.checkTitles()
		var vars []api.Var
		for _, v := range given {
			vars = with(vars, v.Name, v.Value)
		}
		for _, item := range t.head {
			vars = withItem(vars, item.path, item.it)
		}
		for _, s := range t.sections {
			if s.it.Kind == desc.Job {
				l = append(l, t.declare(s, vars))
			}
		}
	})
	if e != api.OK {
		l = nil
	}
	return l, at, e
}

func (t *telling) checkTitles() {
	for i, s := range t.sections {
		same := 0
		for _, other := range t.sections[:i] {
			if other.it.Kind == s.it.Kind && other.it.Name == s.it.Name {
				throw(s.path, s.it.No, api.ErrTwice)
			}
			if other.it.Kind == s.it.Kind {
				same++
			}
		}
		if same == 24 {
			throw(s.path, s.it.No, api.ErrFull)
		}
	}
}

func (t *telling) declare(job found[desc.Section], vars []api.Var) expand.Decl {
	d := expand.Decl{Name: job.it.Name, Path: job.path, No: job.it.No}
	own := job.it.Items
	if len(own) > 0 && own[0].Word == "use" {
		place := slices.IndexFunc(t.sections, func(s found[desc.Section]) bool {
			return s.it.Kind == desc.Template && s.it.Name == own[0].Args[0]
		})
		if place < 0 {
			throw(job.path, own[0].No, api.ErrName)
		}
		for _, item := range t.sections[place].it.Items {
			vars = withItem(vars, t.sections[place].path, item)
			if item.Word != "var" && !overruled(item, own) {
				d.Items = append(d.Items, item)
			}
		}
		own = own[1:]
	}
	for _, item := range own {
		vars = withItem(vars, job.path, item)
		if item.Word != "var" {
			d.Items = append(d.Items, item)
		}
	}
	d.Vars = vars
	return d
}

// overruled tells whether a job with these items has itself what its template says.
func overruled(item desc.Item, own []desc.Item) bool {
	return slices.ContainsFunc(own, func(o desc.Item) bool {
		switch item.Word {
		case "when", "tries", "limit", "manual":
			return o.Word == item.Word
		}
		return item.Word == "axis" && o.Word == "axis" && o.Args[0] == item.Args[0]
	})
}

// with are the variables with one more, or one changed.
func with(vars []api.Var, name, value string) []api.Var {
	vars = slices.Clone(vars)
	for i := range vars {
		if vars[i].Name == name {
			vars[i].Value = value
			return vars
		}
	}
	return append(vars, api.Var{Name: name, Value: value})
}

// withItem are the variables behind an item.
func withItem(vars []api.Var, path string, item desc.Item) []api.Var {
	if item.Word != "var" {
		return vars
	}
	value, e := substituted(item.Args[1], vars)
	throw(path, item.No, e)
	return with(vars, item.Args[0], value)
}

func sameItems(a, b []desc.Item) bool {
	return slices.EqualFunc(a, b, func(a, b desc.Item) bool {
		return a.No == b.No && a.Word == b.Word && slices.Equal(a.Args, b.Args)
	})
}

func sameDecls(a, b []expand.Decl) bool {
	return slices.EqualFunc(a, b, func(a, b expand.Decl) bool {
		return a.Name == b.Name && a.Path == b.Path && a.No == b.No && sameItems(a.Items, b.Items) && slices.Equal(a.Vars, b.Vars)
	})
}

// short is a thing as a text that is not too long to be read.
func short(of any) string {
	s := fmt.Sprintf("%+q", of)
	return s[:min(len(s), 700)]
}

// checkSubst tells where Subst answers something else than it must.
func checkSubst(t *testing.T, text string, vars []api.Var, want string, wantErr api.Errno) {
	t.Helper()
	if got, e := expand.Subst(text, vars); got != want || e != wantErr {
		t.Errorf("Subst(%.200q, %s): %.500q, %d; want %.500q, %d", text, short(vars), got, int(e), want, int(wantErr))
	}
	if told, e := substituted(text, vars); told != want || e != wantErr {
		t.Errorf("of %.200q the second telling says %.500q, %d", text, told, int(e))
	}
}

// check tells where Heads and Expand answer of a tree something else than they must, by the second telling. What Expand must answer is answered.
func check(t *testing.T, tree []api.File, path string, given []api.Var) ([]expand.Decl, expand.Where, api.Errno) {
	t.Helper()
	heads, wantAt, wantErr := headsOf(tree, path)
	if l, at, e := expand.Heads(tree, path); !sameItems(l, heads) || at != wantAt || e != wantErr {
		t.Errorf("Heads(%s, %q): %s, %v, %d; want %s, %v, %d", short(tree), path, short(l), at, int(e), short(heads), wantAt, int(wantErr))
	}
	jobs, wantAt, wantErr := declared(tree, path, given)
	if l, at, e := expand.Expand(tree, path, given); !sameDecls(l, jobs) || at != wantAt || e != wantErr {
		t.Errorf("Expand(%s, %q, %s): %s, %v, %d; want %s, %v, %d", short(tree), path, short(given), short(l), at, int(e), short(jobs), wantAt, int(wantErr))
	}
	return jobs, wantAt, wantErr
}

// checkWrong is check of a tree of which Expand of ci must answer that error, there.
func checkWrong(t *testing.T, tree []api.File, path string, line int, e api.Errno) {
	t.Helper()
	if _, at, got := check(t, tree, "ci", nil); at != (expand.Where{Path: path, Line: line}) || got != e {
		t.Errorf("of %s the second telling says %v, %d; want %s %d, %d", short(tree), at, int(got), path, line, int(e))
	}
}

// checkHeads is check of a tree whose heads must tell these lines, each with its number ahead.
func checkHeads(t *testing.T, tree []api.File, want ...string) {
	t.Helper()
	check(t, tree, "ci", nil)
	l, _, e := expand.Heads(tree, "ci")
	if got := itemsText(l); e != api.OK || !slices.Equal(got, want) {
		t.Errorf("Heads(%s): %q, %d; want %q", short(tree), got, int(e), want)
	}
}

// checkJobs is check of a tree that must declare these jobs, each as jobText has it.
func checkJobs(t *testing.T, tree []api.File, given []api.Var, want ...string) {
	t.Helper()
	check(t, tree, "ci", given)
	l, at, e := expand.Expand(tree, "ci", given)
	var got []string
	for _, d := range l {
		got = append(got, jobText(d))
	}
	if e != api.OK || !slices.Equal(got, want) {
		t.Errorf("Expand(%s, %s): %q, %v, %d; want %q", short(tree), short(given), got, at, int(e), want)
	}
}

func itemsText(l []desc.Item) []string {
	var all []string
	for _, item := range l {
		all = append(all, strings.Join(append([]string{fmt.Sprint(item.No), item.Word}, item.Args...), " "))
	}
	return all
}

// jobText is a job as its name, path and line, its items, and its variables.
func jobText(d expand.Decl) string {
	var vars []string
	for _, v := range d.Vars {
		vars = append(vars, v.Name+"="+v.Value)
	}
	return fmt.Sprintf("%s %s %d: %s; %s", d.Name, d.Path, d.No, strings.Join(itemsText(d.Items), ", "), strings.Join(vars, ", "))
}

// files are a tree of paths and texts by turns; in a text a | stands for a 0A.
func files(l ...string) []api.File {
	var tree []api.File
	for pair := range slices.Chunk(l, 2) {
		tree = append(tree, api.File{Path: pair[0], Data: strings.ReplaceAll(pair[1], "|", "\n")})
	}
	return tree
}

// variables are names and values by turns.
func variables(l ...string) []api.Var {
	var vars []api.Var
	for pair := range slices.Chunk(l, 2) {
		vars = append(vars, api.Var{Name: pair[0], Value: pair[1]})
	}
	return vars
}
