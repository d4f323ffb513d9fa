package plan

import (
	"cmp"

	"bastion/api"
	"bastion/desc"
	"bastion/glob"
)

// checkGiven tells why variables may not be given, if they may not.
func checkGiven(given []api.Var) api.Errno {
	for _, v := range given {
		if !desc.Name(v.Name) {
			return api.ErrName
		}
		if len(v.Value) > api.MaxLine {
			return api.ErrTooLarge
		}
	}
	return api.OK
}

// hasParts tells whether a plan is as it must be, but for how many bytes it has.
func hasParts(p api.Plan) bool {
	if len(p.Jobs) > api.MaxJobs {
		return false
	}
	names := map[string]struct{}{}
	for place, j := range p.Jobs {
		if _, is := names[j.Name]; is || !isJob(j, place) {
			return false
		}
		names[j.Name] = struct{}{}
	}
	return true
}

// isJob tells whether a job is as one at that place of a plan must be.
func isJob(j api.Job, place int) bool {
	return isWithin(len(j.Name), 1, api.MaxLine) &&
		rises(j.Needs) && all(j.Needs, func(k int) bool { return isWithin(k, 0, place-1) }) &&
		rises(j.Tags) && all(j.Tags, desc.Name) &&
		areVars(j.Vars) &&
		len(j.Steps) <= api.MaxSteps && all(j.Steps, isLine) &&
		len(j.Keep) <= api.MaxSteps && all(j.Keep, isPattern) &&
		isWithin(j.Tries, 1, api.MaxTries) &&
		isWithin(j.Limit, 0, api.MaxTicks)
}

func areVars(vars []api.Var) bool {
	names := map[string]struct{}{}
	for _, v := range vars {
		names[v.Name] = struct{}{}
	}
	return len(names) == len(vars) && all(vars, func(v api.Var) bool { return desc.Name(v.Name) && isLine(v.Value) })
}

func isLine(s string) bool { return len(s) <= api.MaxLine }

func isPattern(s string) bool { return glob.Check(s) == api.OK }

func isWithin(n, least, most int) bool { return least <= n && n <= most }

// rises tells whether each thing of a list is greater than the one ahead of it.
func rises[T cmp.Ordered](l []T) bool {
	for i := 1; i < len(l); i++ {
		if l[i-1] >= l[i] {
			return false
		}
	}
	return true
}

func all[T any](l []T, is func(thing T) bool) bool {
	for _, thing := range l {
		if !is(thing) {
			return false
		}
	}
	return true
}
