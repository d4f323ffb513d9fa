package plan_test

import (
	"encoding/binary"
	"fmt"
	"regexp"
	"slices"
	"sort"
	"strings"
	"testing"

	"bastion/api"
	"bastion/expand"
	"bastion/expr"
	"bastion/plan"
	"bastion/words"
)

// What the chapter says, told a second time: jobs by lists that are gone through again and again, names and patterns by expressions.

var (
	aName    = regexp.MustCompile(`^[a-z][a-z0-9_-]{0,23}$`)
	aPattern = regexp.MustCompile(`^[!-~]{1,64}$`)
)

// wrong is thrown where something is.
type wrong struct {
	at expand.Where
	e  api.Errno
}

// throw throws an error, if it is one.
func throw(at expand.Where, e api.Errno) {
	if e != api.OK {
		panic(wrong{at, e})
	}
}

// throwIf throws an error, if something is wrong.
func throwIf(is bool, at expand.Where, e api.Errno) {
	if is {
		throw(at, e)
	}
}

// toldJob is a job, and which declared one it came of.
type toldJob struct {
	api.Job
	of string
	at expand.Where
}

// made is what Make must answer.
func made(tree []api.File, path string, given []api.Var) (p api.Plan, at expand.Where, e api.Errno) {
	defer func() {
		if w, is := recover().(wrong); is {
			p, at, e = api.Plan{}, w.at, w.e
		}
	}()
	asked := expand.Where{Path: path}
	for _, v := range given {
		throwIf(!aName.MatchString(v.Name), asked, api.ErrName)
		throwIf(len(v.Value) > 400, asked, api.ErrTooLarge)
	}
	decls, at, e := expand.Expand(tree, path, given)
	throw(at, e)
	var jobs []toldJob
	for _, d := range decls {
		jobs = comeOf(d, jobs)
	}
	p = api.Plan{Jobs: inRow(jobs, needed(decls, jobs))}
	throwIf(len(bytesTold(p)) > 32768, asked, api.ErrFull)
	return p, expand.Where{}, api.OK
}

// said are the arguments of all items of a word.
func said(d expand.Decl, word string) [][]string {
	var all [][]string
	for _, item := range d.Items {
		if item.Word == word {
			all = append(all, item.Args)
		}
	}
	return all
}

// number is what the item of a word says, if there is one; else another number.
func number(d expand.Decl, word string, other int) int {
	for _, args := range said(d, word) {
		fmt.Sscan(args[0], &other)
	}
	return other
}

// rowsOf are the rows of axes: each axis makes of each row that there was one for each of its values.
func rowsOf(d expand.Decl) [][]api.Var {
	rows := [][]api.Var{nil}
	for _, args := range said(d, "axis") {
		var longer [][]api.Var
		for _, row := range rows {
			for _, value := range args[1:] {
				longer = append(longer, append(slices.Clone(row), api.Var{Name: args[0], Value: value}))
			}
		}
		rows = longer
		throwIf(len(rows) > 24, whereIs(d), api.ErrFull)
	}
	return rows
}

func whereIs(d expand.Decl) expand.Where { return expand.Where{Path: d.Path, Line: d.No} }

// putIn are texts with variables put in.
func putIn(at expand.Where, texts []string, vars []api.Var) []string {
	var l []string
	for _, text := range texts {
		s, e := expand.Subst(text, vars)
		throw(at, e)
		l = append(l, s)
	}
	return l
}

var (
	nameForms  = strings.NewReplacer(`\`, `\\`, `:`, `\:`)
	valueForms = strings.NewReplacer(`\`, `\\`, `,`, `\,`)
)

func label(name string, row []api.Var) string {
	s := nameForms.Replace(name)
	for i, v := range row {
		s += ":,"[min(i, 1):min(i, 1)+1] + valueForms.Replace(v.Value)
	}
	return s
}

// comeOf are the jobs, and behind them what comes of a declared one.
func comeOf(d expand.Decl, jobs []toldJob) []toldJob {
	at := whereIs(d)
	rows := rowsOf(d)
	keep := slices.Concat(said(d, "keep")...)
	throwIf(len(said(d, "do")) > 40 || len(keep) > 40, at, api.ErrFull)
	for _, row := range rows {
		j := toldJob{of: d.Name, at: at, Job: api.Job{Name: label(d.Name, row), Tries: number(d, "tries", 1), Limit: number(d, "limit", 0), Manual: len(said(d, "manual")) > 0}}
		j.Vars = slices.Clone(d.Vars)
		for _, v := range row {
			j.Vars = with(j.Vars, v)
		}
		if when := said(d, "when"); len(when) > 0 {
			holds, e := expr.Value(putIn(at, when[0], j.Vars))
			throw(at, e)
			if !holds {
				continue
			}
		}
		j.Keep = putIn(at, keep, j.Vars)
		for _, pattern := range j.Keep {
			throwIf(!aPattern.MatchString(pattern), at, api.ErrForm)
		}
		j.Tags = sortedSet(slices.Concat(said(d, "tags")...))
		for _, args := range said(d, "do") {
			step, e := words.Join(args)
			throw(expand.Where{Path: "Join"}, e)
			j.Steps = append(j.Steps, step)
		}
		throwIf(len(j.Name) > 400, at, api.ErrTooLarge)
		throwIf(slices.ContainsFunc(jobs, func(other toldJob) bool { return other.Name == j.Name }), at, api.ErrTwice)
		jobs = append(jobs, j)
		throwIf(len(jobs) > 24, at, api.ErrFull)
	}
	return jobs
}

func with(vars []api.Var, v api.Var) []api.Var {
	for i := range vars {
		if vars[i].Name == v.Name {
			vars[i] = v
			return vars
		}
	}
	return append(vars, v)
}

func sortedSet(l []string) []string {
	set := map[string]bool{}
	for _, s := range l {
		set[s] = true
	}
	var all []string
	for s := range set {
		all = append(all, s)
	}
	sort.Strings(all)
	return all
}

// needed tells for each job and each other one whether it needs that.
func needed(decls []expand.Decl, jobs []toldJob) map[[2]int]bool {
	needs := map[[2]int]bool{}
	for _, d := range decls {
		for _, name := range slices.Concat(said(d, "needs")...) {
			throwIf(!slices.ContainsFunc(decls, func(other expand.Decl) bool { return other.Name == name }), whereIs(d), api.ErrName)
			for i, job := range jobs {
				for k, other := range jobs {
					if job.of == d.Name && other.of == name {
						needs[[2]int{i, k}] = true
					}
				}
			}
		}
	}
	return needs
}

// inRow are the jobs, again and again the least one that is not there yet, all of whose needs are.
func inRow(jobs []toldJob, needs map[[2]int]bool) []api.Job {
	var row []api.Job
	places := map[int]int{} // of those that are there
	for range jobs {
		for i, job := range jobs {
			ready := true
			for k := range jobs {
				_, is := places[k]
				ready = ready && (is || !needs[[2]int{i, k}])
			}
			if _, is := places[i]; is || !ready {
				continue
			}
			for k := range jobs {
				if needs[[2]int{i, k}] {
					job.Needs = append(job.Needs, places[k])
				}
			}
			sort.Ints(job.Needs)
			places[i] = len(row)
			row = append(row, job.Job)
			break
		}
	}
	if len(row) < len(jobs) {
		throwCycle(jobs, needs)
	}
	return row
}

// throwCycle throws where the first job stands from which one comes to itself, step by step through what is needed.
func throwCycle(jobs []toldJob, needs map[[2]int]bool) {
	for i, job := range jobs {
		on := map[int]bool{}
		for range jobs {
			for k := range jobs {
				for l := range jobs {
					on[k] = on[k] || needs[[2]int{l, k}] && (l == i || on[l])
				}
			}
		}
		throwIf(on[i], job.at, api.ErrCycle)
	}
	panic("no row, and no cycle")
}

// bytesTold are a plan's bytes.
func bytesTold(p api.Plan) []byte {
	b := binary.AppendUvarint(nil, uint64(len(p.Jobs)))
	text := func(s string) { b = append(binary.AppendUvarint(b, uint64(len(s))), s...) }
	texts := func(l []string) {
		b = binary.AppendUvarint(b, uint64(len(l)))
		for _, s := range l {
			text(s)
		}
	}
	for _, j := range p.Jobs {
		text(j.Name)
		b = binary.AppendUvarint(b, uint64(len(j.Needs)))
		for _, k := range j.Needs {
			b = binary.AppendUvarint(b, uint64(k))
		}
		texts(j.Tags)
		b = binary.AppendUvarint(b, uint64(len(j.Vars)))
		for _, v := range j.Vars {
			text(v.Name)
			text(v.Value)
		}
		texts(j.Steps)
		texts(j.Keep)
		b = binary.AppendUvarint(b, uint64(j.Tries))
		b = binary.AppendUvarint(b, uint64(j.Limit))
		b = append(b, map[bool]byte{true: 1}[j.Manual])
	}
	return b
}

// mayBe tells whether a plan may be.
func mayBe(p api.Plan) bool {
	is := len(p.Jobs) <= 24
	for place, j := range p.Jobs {
		is = is && len(j.Name) >= 1 && len(j.Name) <= 400
		for _, other := range p.Jobs[:place] {
			is = is && other.Name != j.Name
		}
		for i, k := range j.Needs {
			is = is && k >= 0 && k < place && (i == 0 || j.Needs[i-1] < k)
		}
		for i, tag := range j.Tags {
			is = is && aName.MatchString(tag) && (i == 0 || j.Tags[i-1] < tag)
		}
		for i, v := range j.Vars {
			is = is && aName.MatchString(v.Name) && len(v.Value) <= 400
			for _, other := range j.Vars[:i] {
				is = is && other.Name != v.Name
			}
		}
		is = is && len(j.Steps) <= 40 && len(j.Keep) <= 40
		for _, step := range j.Steps {
			is = is && len(step) <= 400
		}
		for _, pattern := range j.Keep {
			is = is && aPattern.MatchString(pattern)
		}
		is = is && j.Tries >= 1 && j.Tries <= 5 && j.Limit >= 0 && j.Limit <= 1000
	}
	return is && len(bytesTold(p)) <= 32768
}

// samePlans tells whether two plans are the same, an empty list as none.
func samePlans(a, b api.Plan) bool {
	return slices.EqualFunc(a.Jobs, b.Jobs, func(a, b api.Job) bool {
		return a.Name == b.Name && slices.Equal(a.Needs, b.Needs) && slices.Equal(a.Tags, b.Tags) && slices.Equal(a.Vars, b.Vars) &&
			slices.Equal(a.Steps, b.Steps) && slices.Equal(a.Keep, b.Keep) && a.Tries == b.Tries && a.Limit == b.Limit && a.Manual == b.Manual
	})
}

// copied is a plan with lists of its own, which have no spare room.
func copied(p api.Plan) api.Plan {
	p.Jobs = slices.Clone(p.Jobs)
	for i := range p.Jobs {
		j := &p.Jobs[i]
		j.Needs, j.Tags, j.Vars = slices.Clone(j.Needs), slices.Clone(j.Tags), slices.Clone(j.Vars)
		j.Steps, j.Keep = slices.Clone(j.Steps), slices.Clone(j.Keep)
	}
	return p
}

// short is a thing as a text that is not too long to be read.
func short(of any) string {
	s := fmt.Sprintf("%+q", of)
	return s[:min(len(s), 700)]
}

// check tells where Make answers something else than it must, by the second telling, or changes what it is handed. What it must answer is answered. What Make answers may be (P16.3), and comes back from its bytes (P16.4).
func check(t *testing.T, tree []api.File, path string, given []api.Var) (api.Plan, expand.Where, api.Errno) {
	t.Helper()
	treeGiven, varsGiven := slices.Clone(tree), slices.Clone(given)
	want, wantAt, wantE := made(treeGiven, path, varsGiven)
	p, at, e := plan.Make(tree, path, given)
	if !samePlans(p, want) || at != wantAt || e != wantE {
		t.Errorf("Make(%s, %q, %s): %s, %v, %d; want %s, %v, %d", short(tree), path, short(given), short(p), at, int(e), short(want), wantAt, int(wantE))
	}
	if !slices.Equal(tree, treeGiven) || !slices.Equal(given, varsGiven) {
		t.Errorf("Make changes what it is handed: %s, %s; was %s, %s", short(tree), short(given), short(treeGiven), short(varsGiven))
	}
	checkPlan(t, p)
	if !mayBe(p) {
		t.Errorf("Make(%s, %q, %s): %s, which may not be", short(tree), path, short(given), short(p))
	}
	return want, wantAt, wantE
}

// checkPlan tells where Check and Encode answer of a plan something else than they must, or change it, and whether it comes back.
func checkPlan(t *testing.T, p api.Plan) {
	t.Helper()
	given := copied(p)
	if !mayBe(given) {
		checkNone(t, p)
		return
	}
	want := bytesTold(given)
	if e := plan.Check(p); e != api.OK {
		t.Errorf("Check(%s): %d; want 0", short(given), int(e))
	}
	b, e := plan.Encode(p)
	if !slices.Equal(b, want) || e != api.OK {
		t.Errorf("Encode(%s): %.700x, %d; want %.700x, 0", short(given), b, int(e), want)
	}
	if !samePlans(p, given) {
		t.Errorf("a plan was changed: %s, was %s", short(p), short(given))
	}
	if back, e := plan.Decode(want); !samePlans(back, given) || e != api.OK {
		t.Errorf("Decode(%.700x): %s, %d; want %s, 0", want, short(back), int(e), short(given))
	}
}

// checkNone tells where Check and Encode take what may not be for a plan, or Decode its bytes.
func checkNone(t *testing.T, p api.Plan) {
	t.Helper()
	if e := plan.Check(p); e != api.ErrForm {
		t.Errorf("Check(%s): %d; want 4", short(p), int(e))
	}
	if b, e := plan.Encode(p); len(b) != 0 || e != api.ErrForm {
		t.Errorf("Encode(%s): %.700x, %d; want none, 4", short(p), b, int(e))
	}
	checkNoBytes(t, bytesTold(p))
}

// checkNoBytes tells where Decode takes bytes for a plan's, or changes them.
func checkNoBytes(t *testing.T, b []byte) {
	t.Helper()
	given := slices.Clone(b)
	if p, e := plan.Decode(b); !samePlans(p, api.Plan{}) || e != api.ErrForm {
		t.Errorf("Decode(%.700x): %s, %d; want none, 4", given, short(p), int(e))
	}
	if !slices.Equal(b, given) {
		t.Errorf("Decode changes what it is handed: %.700x, was %.700x", b, given)
	}
}

// checkJobs is check of a tree of which must come these jobs, each as jobText has it.
func checkJobs(t *testing.T, tree []api.File, given []api.Var, want ...string) {
	t.Helper()
	check(t, tree, "ci", given)
	p, at, e := plan.Make(tree, "ci", given)
	var got []string
	for _, j := range p.Jobs {
		got = append(got, jobText(j))
	}
	if e != api.OK || at != (expand.Where{}) || !slices.Equal(got, want) {
		t.Errorf("Make(%s, %s): %q, %v, %d; want %q", short(tree), short(given), got, at, int(e), want)
	}
}

// checkWrong is check of a tree of which Make of ci must answer that error, there.
func checkWrong(t *testing.T, tree []api.File, path string, line int, e api.Errno) {
	t.Helper()
	checkGiven(t, tree, nil, path, line, e)
}

// checkGiven is checkWrong with variables.
func checkGiven(t *testing.T, tree []api.File, given []api.Var, path string, line int, e api.Errno) {
	t.Helper()
	if _, at, got := check(t, tree, "ci", given); at != (expand.Where{Path: path, Line: line}) || got != e {
		t.Errorf("of %s, %s the second telling says %v, %d; want %s %d, %d", short(tree), short(given), at, int(got), path, line, int(e))
	}
}

// jobText is a job as its name, and what it has else.
func jobText(j api.Job) string {
	s := j.Name
	add := func(word, what string) {
		if what != "" {
			s += "; " + word + " " + what
		}
	}
	add("needs", strings.Trim(fmt.Sprint(j.Needs), "[]"))
	add("tags", strings.Join(j.Tags, " "))
	var vars []string
	for _, v := range j.Vars {
		vars = append(vars, v.Name+"="+v.Value)
	}
	add("vars", strings.Join(vars, " "))
	add("steps", strings.Join(j.Steps, " / "))
	add("keep", strings.Join(j.Keep, " "))
	if j.Tries != 1 {
		add("tries", fmt.Sprint(j.Tries))
	}
	if j.Limit != 0 {
		add("limit", fmt.Sprint(j.Limit))
	}
	if j.Manual {
		s += "; manual"
	}
	return s
}

// files are a tree of paths and texts by turns; in a text a | stands for a 0A.
func files(l ...string) []api.File {
	var tree []api.File
	for pair := range slices.Chunk(l, 2) {
		tree = append(tree, api.File{Path: pair[0], Data: strings.ReplaceAll(pair[1], "|", "\n")})
	}
	return tree
}

// ci is a tree of the file ci alone.
func ci(text string) []api.File { return files("ci", text) }

// variables are names and values by turns.
func variables(l ...string) []api.Var {
	var vars []api.Var
	for pair := range slices.Chunk(l, 2) {
		vars = append(vars, api.Var{Name: pair[0], Value: pair[1]})
	}
	return vars
}
