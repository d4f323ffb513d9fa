package plan

import (
	"slices"
	"strconv"

	"bastion/api"
	"bastion/desc"
	"bastion/expand"
	"bastion/expr"
	"bastion/matrix"
	"bastion/words"
)

// wish is what a declared job's items ask for.
type wish struct {
	axes         []matrix.Axis
	when         []string // none, if it has no such item: one has words
	steps, keep  []string
	tags, needs  []string // rising, each once
	tries, limit int
	manual       bool
}

// wishOf is what items ask for; they are as layer 12 lets them be.
func wishOf(items []desc.Item) wish {
	w := wish{tries: 1}
	for _, item := range items {
		switch item.Word {
		case "axis":
			w.axes = append(w.axes, matrix.Axis{Name: item.Args[0], Values: item.Args[1:]})
		case "when":
			w.when = item.Args
		case "do":
			// It was read from a line, and a word's own form is its shortest: there is room for it.
			line, _ := words.Join(item.Args)
			w.steps = append(w.steps, line)
		case "keep":
			w.keep = append(w.keep, item.Args...)
		case "tags":
			w.tags = append(w.tags, item.Args...)
		case "needs":
			w.needs = append(w.needs, item.Args...)
		case "tries":
			w.tries, _ = strconv.Atoi(item.Args[0])
		case "limit":
			w.limit, _ = strconv.Atoi(item.Args[0])
		case "manual":
			w.manual = true
		}
	}
	w.tags, w.needs = risingOnce(w.tags), risingOnce(w.needs)
	return w
}

func risingOnce(names []string) []string {
	slices.Sort(names)
	return slices.Compact(names)
}

// rows are the rows of its axes, if there may be so much of all.
func (w wish) rows() ([][]string, api.Errno) {
	rows, e := matrix.Rows(w.axes)
	if e != api.OK {
		return nil, e
	}
	if len(w.steps) > api.MaxSteps || len(w.keep) > api.MaxSteps {
		return nil, api.ErrFull
	}
	return rows, api.OK
}

// job is the job that comes of a row, but for its needs, and whether one does.
func (w wish) job(d expand.Decl, row []string) (api.Job, bool, api.Errno) {
	vars := withAll(d.Vars, matrix.Vars(w.axes, row))
	comes, e := w.comes(vars)
	if !comes {
		return api.Job{}, false, e
	}
	keep, e := patternsOf(w.keep, vars)
	if e != api.OK {
		return api.Job{}, false, e
	}
	return api.Job{
		Name:   matrix.Label(d.Name, row),
		Tags:   slices.Clone(w.tags),
		Vars:   vars,
		Steps:  slices.Clone(w.steps),
		Keep:   keep,
		Tries:  w.tries,
		Limit:  w.limit,
		Manual: w.manual,
	}, true, api.OK
}

// comes tells whether with these variables a job comes of it.
func (w wish) comes(vars []api.Var) (bool, api.Errno) {
	if len(w.when) == 0 {
		return true, api.OK
	}
	condition, e := putInAll(w.when, vars)
	if e != api.OK {
		return false, e
	}
	return expr.Value(condition)
}

// withAll is a list of its own of variables and those of a row: each of these in the place of one of its name, or behind.
func withAll(vars, row []api.Var) []api.Var {
	vars = slices.Clone(vars)
	for _, v := range row {
		place := slices.IndexFunc(vars, func(other api.Var) bool { return other.Name == v.Name })
		if place >= 0 {
			vars[place] = v
		} else {
			vars = append(vars, v)
		}
	}
	return vars
}

// patternsOf are patterns with variables put in, if they are patterns then.
func patternsOf(keep []string, vars []api.Var) ([]string, api.Errno) {
	patterns, e := putInAll(keep, vars)
	if e != api.OK {
		return nil, e
	}
	if !all(patterns, isPattern) {
		return nil, api.ErrForm
	}
	return patterns, api.OK
}

func putInAll(texts []string, vars []api.Var) ([]string, api.Errno) {
	var told []string
	for _, text := range texts {
		s, e := expand.Subst(text, vars)
		if e != api.OK {
			return nil, e
		}
		told = append(told, s)
	}
	return told, api.OK
}
