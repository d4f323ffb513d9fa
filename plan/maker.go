package plan

import (
	"slices"

	"bastion/api"
	"bastion/expand"
	"bastion/graph"
)

// maker makes a plan of declared jobs.
type maker struct {
	decls  []expand.Decl
	wishes []wish
	jobs   []api.Job // in the row in which they were declared, without their needs
	of     []int     // the place of the declared job of which each of them came
	needs  [][]int   // of each of them, by their places among the jobs
}

func newMaker(decls []expand.Decl) *maker {
	m := &maker{decls: decls}
	for _, d := range decls {
		m.wishes = append(m.wishes, wishOf(d.Items))
	}
	return m
}

// whereOf is where a declared job stands.
func (m *maker) whereOf(place int) expand.Where {
	return expand.Where{Path: m.decls[place].Path, Line: m.decls[place].No}
}

// makeJobs makes all jobs.
func (m *maker) makeJobs() (expand.Where, api.Errno) {
	names := map[string]struct{}{}
	for place := range m.decls {
		if e := m.makeOf(place, names); e != api.OK {
			return m.whereOf(place), e
		}
	}
	return expand.Where{}, api.OK
}

// makeOf makes what comes of one declared job; names are those of the jobs that were made.
func (m *maker) makeOf(place int, names map[string]struct{}) api.Errno {
	rows, e := m.wishes[place].rows()
	if e != api.OK {
		return e
	}
	for _, row := range rows {
		job, comes, e := m.wishes[place].job(m.decls[place], row)
		if e != api.OK {
			return e
		}
		if !comes {
			continue
		}
		if e := m.mayCome(job.Name, names); e != api.OK {
			return e
		}
		names[job.Name] = struct{}{}
		m.jobs = append(m.jobs, job)
		m.of = append(m.of, place)
	}
	return api.OK
}

// mayCome tells why no job of that name may come behind the others, if none may.
func (m *maker) mayCome(name string, names map[string]struct{}) api.Errno {
	if !isLine(name) {
		return api.ErrTooLarge
	}
	if _, is := names[name]; is {
		return api.ErrTwice
	}
	if len(m.jobs) == api.MaxJobs {
		return api.ErrFull
	}
	return api.OK
}

// findNeeds finds what each job needs.
func (m *maker) findNeeds() (expand.Where, api.Errno) {
	came := m.byName()
	needs := make([][]int, len(m.decls))
	for place := range m.decls {
		for _, name := range m.wishes[place].needs {
			jobs, is := came[name]
			if !is {
				return m.whereOf(place), api.ErrName
			}
			needs[place] = append(needs[place], jobs...)
		}
	}
	for _, place := range m.of {
		m.needs = append(m.needs, needs[place])
	}
	return expand.Where{}, api.OK
}

// byName are the jobs that came of each declared one, none of some, by the names of these.
func (m *maker) byName() map[string][]int {
	came := map[string][]int{}
	for _, d := range m.decls {
		came[d.Name] = nil
	}
	for i, place := range m.of {
		name := m.decls[place].Name
		came[name] = append(came[name], i)
	}
	return came
}

// inRow is the plan: the jobs in a row in which each stands behind all that it needs.
func (m *maker) inRow() (api.Plan, expand.Where, api.Errno) {
	row, e := graph.Sort(m.needs)
	if e != api.OK {
		return api.Plan{}, m.cycleAt(), e
	}
	places := make([]int, len(row))
	for place, i := range row {
		places[i] = place
	}
	var p api.Plan
	for _, i := range row {
		job := m.jobs[i]
		for _, k := range m.needs[i] {
			job.Needs = append(job.Needs, places[k])
		}
		slices.Sort(job.Needs)
		p.Jobs = append(p.Jobs, job)
	}
	return p, expand.Where{}, api.OK
}

// cycleAt is where the first declared job stands that has a job which rests on itself; where there is no row, there is one.
func (m *maker) cycleAt() expand.Where {
	for i, place := range m.of {
		if below, _ := graph.Below(m.needs, i); slices.Contains(below, i) {
			return m.whereOf(place)
		}
	}
	return expand.Where{}
}
