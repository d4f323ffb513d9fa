package plan

import (
	"bastion/api"
	"bastion/code"
)

// bytesOf are the bytes of a plan, however many they are.
func bytesOf(p api.Plan) []byte {
	var b []byte
	count := func(n int) { b = append(b, code.Count(nil, n)...) }
	text := func(s string) { b = append(b, code.Str(nil, s)...) }
	variable := func(v api.Var) {
		text(v.Name)
		text(v.Value)
	}
	addList(p.Jobs, count, func(j api.Job) {
		text(j.Name)
		addList(j.Needs, count, count)
		addList(j.Tags, count, text)
		addList(j.Vars, count, variable)
		addList(j.Steps, count, text)
		addList(j.Keep, count, text)
		count(j.Tries)
		count(j.Limit)
		b = append(b, code.Flag(nil, j.Manual)...)
	})
	return b
}

// addList writes a list of any kind: how many things it has by count, and each of them by add.
func addList[T any](l []T, count func(n int), add func(thing T)) {
	count(len(l))
	for _, thing := range l {
		add(thing)
	}
}

// takePlan takes a plan off. Whether it may be is not asked: who has it can ask that of the plan.
func takePlan(r *code.Reader) api.Plan {
	count := func() int { return r.Count(api.MaxCount) }
	text := func() string { return r.Str(MaxBytes) }
	variable := func() api.Var { return api.Var{Name: text(), Value: text()} }
	return api.Plan{Jobs: takeList(r, func() api.Job {
		return api.Job{
			Name:   text(),
			Needs:  takeList(r, count),
			Tags:   takeList(r, text),
			Vars:   takeList(r, variable),
			Steps:  takeList(r, text),
			Keep:   takeList(r, text),
			Tries:  count(),
			Limit:  count(),
			Manual: r.Flag(),
		}
	})}
}

// takeList takes a list of any kind off, each of its things by take; what a count tells is looked for only as long as there is something.
func takeList[T any](r *code.Reader, take func() T) []T {
	var l []T
	for n := r.Count(MaxBytes); len(l) < n && r.OK(); {
		l = append(l, take())
	}
	return l
}
