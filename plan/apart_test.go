package plan_test

import (
	"slices"
	"sync"
	"testing"

	"bastion/api"
	"bastion/plan"
)

func apartTree() []api.File {
	return files("ci", "include lib|var v 1|var w 2|job a|use t|axis n x y z|needs b|job b|do a|do b|tags m n o|keep k l m", "lib", "template t|tags a b c|needs c|do x|do y|do z|keep a b $v|job c")
}

// list is a list of an answer: one may write all over it, with its spare room, and ask whether it is as it was.
type list struct {
	write   func()
	isAsWas func() bool
}

func listOf[T any](l []T, by T, same func(a, b []T) bool) list {
	was := slices.Clone(l)
	return list{
		write: func() {
			room := l[:cap(l)]
			for i := range room {
				room[i] = by
			}
		},
		// What lists within it have is theirs to tell.
		isAsWas: func() bool { return same(l, was) },
	}
}

func sameNames(a, b []api.Job) bool {
	return slices.EqualFunc(a, b, func(a, b api.Job) bool { return a.Name == b.Name })
}

func listsOf(p api.Plan) []list {
	all := []list{listOf(p.Jobs, api.Job{Name: "written"}, sameNames)}
	for _, j := range p.Jobs {
		all = append(all, listOf(j.Needs, 99, slices.Equal), listOf(j.Vars, api.Var{Name: "written"}, slices.Equal))
		for _, l := range [][]string{j.Tags, j.Steps, j.Keep} {
			all = append(all, listOf(l, "written", slices.Equal))
		}
	}
	return all
}

// checkLists writes to each list of an answer in turn, and tells where another one shows it.
func checkLists(t *testing.T, lists func() []list) {
	t.Helper()
	for i := range lists() {
		l := lists()
		l[i].write()
		for k, other := range l {
			if k != i && !other.isAsWas() {
				t.Errorf("the list %d shows what was written to the list %d", k, i)
			}
		}
	}
}

// R3: what is handed out is new memory, and no two lists of it share any, their spare room neither: those of jobs of one declared job, too.
func TestHandedOut(t *testing.T) {
	given := variables("a", "1", "b", "2")
	make := func() api.Plan {
		p, _, e := plan.Make(apartTree(), "ci", given)
		if e != api.OK || len(p.Jobs) != 5 {
			t.Fatalf("%s, %d", short(p), int(e))
		}
		return p
	}
	checkLists(t, func() []list { return listsOf(make()) })
	b, e := plan.Encode(make())
	if e != api.OK {
		t.Fatal(e)
	}
	checkLists(t, func() []list {
		p, e := plan.Decode(b)
		if e != api.OK {
			t.Fatal(e)
		}
		return append(listsOf(p), listOf(b, b[0], slices.Equal))
	})
	// No other answer shows it, nor does what was given.
	p, other := make(), make()
	b, _ = plan.Encode(p)
	again, _ := plan.Encode(p)
	decoded, _ := plan.Decode(b)
	for i := range b[:cap(b)] {
		b[:cap(b)][i] = 0xff
	}
	for _, l := range listsOf(p) {
		l.write()
	}
	want, _, _ := made(apartTree(), "ci", given)
	if !samePlans(other, want) || !samePlans(decoded, want) || !slices.Equal(again, bytesTold(want)) || !slices.Equal(given, variables("a", "1", "b", "2")) {
		t.Errorf("what was written is shown: %s, %s, %x, %s", short(other), short(decoded), again, short(given))
	}
}

// R3: what is handed in is not changed, with the room behind its ends, and that room is not read.
func TestHandedIn(t *testing.T) {
	tree := append(apartTree(), files("behind", "job $")...)
	given := variables("a", "1", "v", "2", "A", "wrong")
	for range 2 {
		check(t, tree[:2], "ci", given[:2])
		check(t, tree[:1], "ci", given[:2])
		check(t, tree[:0], "ci", given[:0])
		check(t, tree[:2], "behind", given[:1])
	}
	if !slices.Equal(tree, append(apartTree(), files("behind", "job $")...)) || !slices.Equal(given, variables("a", "1", "v", "2", "A", "wrong")) {
		t.Errorf("what was handed in is changed: %s, %s", short(tree), short(given))
	}
	// Of each list of a plan only what is in it counts, and the rest stays as it is.
	roomy := func() api.Plan {
		p := goodPlan()
		p.Jobs = append(p.Jobs, api.Job{})
		for i := range p.Jobs {
			j := &p.Jobs[i]
			j.Needs, j.Tags, j.Vars = append(j.Needs, -1), append(j.Tags, "A"), append(j.Vars, api.Var{Name: "A"})
			j.Steps, j.Keep = append(j.Steps, "behind"), append(j.Keep, "")
		}
		return p
	}
	p := roomy()
	p.Jobs = p.Jobs[:3]
	for i := range p.Jobs {
		j := &p.Jobs[i]
		j.Needs, j.Tags, j.Vars = j.Needs[:len(j.Needs)-1], j.Tags[:len(j.Tags)-1], j.Vars[:len(j.Vars)-1]
		j.Steps, j.Keep = j.Steps[:len(j.Steps)-1], j.Keep[:len(j.Keep)-1]
	}
	checkPlan(t, p)
	if !samePlans(p, goodPlan()) {
		t.Errorf("what was handed in is changed: %s", short(p))
	}
	p.Jobs = p.Jobs[:4]
	for i := range 3 {
		j := &p.Jobs[i]
		j.Needs, j.Tags, j.Vars = j.Needs[:len(j.Needs)+1], j.Tags[:len(j.Tags)+1], j.Vars[:len(j.Vars)+1]
		j.Steps, j.Keep = j.Steps[:len(j.Steps)+1], j.Keep[:len(j.Keep)+1]
	}
	if !samePlans(p, roomy()) {
		t.Errorf("what stands behind what was handed in is changed: %s", short(p))
	}
	b := bytesTold(goodPlan())
	long := append(slices.Clone(b), 1, 2, 3)
	if p, e := plan.Decode(long[:len(b)]); e != api.OK || !samePlans(p, goodPlan()) || !slices.Equal(long, append(slices.Clone(b), 1, 2, 3)) {
		t.Errorf("Decode with bytes behind: %s, %d, %x", short(p), int(e), long)
	}
	// What one plan has may stand in another one, and twice.
	shared := goodPlan()
	shared.Jobs[1] = shared.Jobs[2]
	shared.Jobs[1].Name, shared.Jobs[1].Needs = "d", shared.Jobs[2].Needs[:1]
	checkPlan(t, shared)
}

// R2: an answer hangs on what is asked alone, at one time too.
func TestAgain(t *testing.T) {
	var all sync.WaitGroup
	for range 4 {
		all.Go(func() {
			for range 3 {
				checkJobs(t, apartTree(), nil, "c; vars v=1 w=2", "b; tags m n o; vars v=1 w=2; steps a / b; keep k l m",
					"a:x; needs 0 1; tags a b c; vars v=1 w=2 n=x; steps x / y / z; keep a b 1", "a:y; needs 0 1; tags a b c; vars v=1 w=2 n=y; steps x / y / z; keep a b 1", "a:z; needs 0 1; tags a b c; vars v=1 w=2 n=z; steps x / y / z; keep a b 1")
				checkWrong(t, ci("job a|axis n 1 1"), "ci", 1, api.ErrTwice)
				checkWrong(t, ci("job a|needs a"), "ci", 1, api.ErrCycle)
				checkJobs(t, ci("job a"), nil, "a")
				checkNone(t, api.Plan{Jobs: []api.Job{{Name: "a", Tries: 6}}})
				checkPlan(t, goodPlan())
			}
		})
	}
	all.Wait()
}
