package plan_test

import (
	"fmt"
	"math/rand/v2"
	"slices"
	"strings"
	"testing"

	"bastion/api"
	"bastion/plan"
)

func oneOf[T any](r *rand.Rand, l ...T) T { return l[r.IntN(len(l))] }

// drawnItem is a line of a section; now and then it asks for what there is not.
func drawnItem(r *rand.Rand, job byte) string {
	switch r.IntN(10) {
	case 0:
		if job > 'a' && r.IntN(8) > 0 {
			return "needs " + string('a'+byte(r.IntN(int(job-'a'))))
		}
		return "needs " + oneOf(r, "a", "b c", "d a d", "e", "f")
	case 1:
		return "tags " + oneOf(r, "m", "z y", "b b a", "a-1 a_1 a1")
	case 2, 8:
		return "axis " + oneOf(r, "v", "w", "n") + oneOf(r, " x", " x y", " 1 2 3", " 1 2 3 4", ` \ , :`, " x y x", " == $v")
	case 3:
		return "when " + oneOf(r, "$v == x", "$v == $w or $n != 1", "not $n ~ ?", "$n", "a $n b", "$v $n $w", "( $w == y )", "$$v != $v", "1 == 1")
	case 4:
		return "do " + oneOf(r, "say $v", `"a b" ""`, "x # y", `"\x00"`, "$ ${")
	case 5:
		return "keep " + oneOf(r, "x", "$v/*", "a $w", "**", "$n$n", "$$")
	case 6:
		return oneOf(r, "tries 2", "tries 5", "limit 7", "limit 1000", "manual")
	case 7:
		return "var " + oneOf(r, "v x", "w $v", "n 1", `w "a b"`, "k $n$n", `v ""`)
	}
	return "do x"
}

// once are the words of items that stand once at most.
var once = []string{"when", "tries", "limit", "manual", "axis v", "axis w", "axis n"}

// drawnSection is a section with a few items.
func drawnSection(r *rand.Rand, title string, job byte) string {
	l := []string{title}
	if strings.HasPrefix(title, "job") && r.IntN(3) == 0 {
		l = append(l, "use "+oneOf(r, "t", "t", "t", "t", "u"))
	}
	for range r.IntN(7) {
		item := drawnItem(r, job)
		twice := slices.ContainsFunc(once, func(word string) bool {
			return strings.HasPrefix(item, word) && slices.ContainsFunc(l, func(other string) bool { return strings.HasPrefix(other, word) })
		})
		if !twice {
			l = append(l, item)
		}
	}
	return strings.Join(l, "|")
}

// drawnTree is a file ci, and one that it includes.
func drawnTree(r *rand.Rand) []api.File {
	head := "var v " + oneOf(r, "x", "y", "1") + "|var w y|"
	if r.IntN(5) > 0 {
		head += "var n 1|"
	}
	lib := []string{drawnSection(r, "template t", 'f')}
	var own []string
	for job := byte('a'); job < 'a'+byte(1+r.IntN(5)); job++ {
		s := drawnSection(r, "job "+string(job), job)
		if r.IntN(2) == 0 {
			lib = append(lib, s)
		} else {
			own = append(own, s)
		}
	}
	r.Shuffle(len(own), func(i, k int) { own[i], own[k] = own[k], own[i] })
	return files("ci", "include lib|"+head+strings.Join(own, "|"), "lib", strings.Join(lib, "|"))
}

// P16.1, P16.3, P16.4: drawn descriptions, held against the second telling; what comes of them may be, and comes back from its bytes.
func TestDrawn(t *testing.T) {
	r := rand.New(rand.NewPCG(16, 1))
	answers := map[api.Errno]int{}
	jobs := map[int]int{}
	for range 30000 {
		var given []api.Var
		if r.IntN(4) == 0 {
			given = variables("n", oneOf(r, "x", "", "=="), "z", "1")
		}
		p, _, e := check(t, drawnTree(r), oneOf(r, "ci", "ci", "ci", "lib"), given)
		answers[e]++
		jobs[len(p.Jobs)]++
		if t.Failed() {
			return
		}
	}
	for _, e := range []api.Errno{api.OK, api.ErrFull, api.ErrForm, api.ErrTwice, api.ErrName, api.ErrCycle} {
		if answers[e] < 100 {
			t.Errorf("the answer %d came %d times: %v", int(e), answers[e], answers)
		}
	}
	for n := range 12 {
		if jobs[n] < 20 {
			t.Errorf("%d jobs came %d times: %v", n, jobs[n], jobs)
		}
	}
}

// P16.1: every way in which up to four declared jobs may need one another.
func TestEveryNeed(t *testing.T) {
	const names = "abcd"
	for n := range len(names) + 1 {
		for needs := range 1 << (n * n) {
			if n == 4 && needs%7 != 3 {
				continue
			}
			var l []string
			for i := range n {
				l = append(l, "job "+names[i:i+1])
				for k := range n {
					if needs>>(i*n+k)&1 == 1 {
						l = append(l, "needs "+names[k:k+1])
					}
				}
			}
			check(t, ci(strings.Join(l, "|")), "ci", nil)
			if t.Failed() {
				return
			}
		}
	}
}

// P16.5: files that are not included, and the order of all, change nothing: neither the plan, nor where and why there is none.
func TestWhatIsNotAsked(t *testing.T) {
	r := rand.New(rand.NewPCG(16, 5))
	for range 3000 {
		tree := drawnTree(r)
		want, wantAt, wantE := plan.Make(tree, "ci", nil)
		more := slices.Concat(tree, files("a", "job A", "ci/lib", "job z", "other", "var v 9|job a", "z", "$", "", "job q"))
		r.Shuffle(len(more), func(i, k int) { more[i], more[k] = more[k], more[i] })
		// Nor do later files at paths that are there.
		more = append(more, files("ci", "job late", "lib", "job late")...)
		if p, at, e := plan.Make(more, "ci", nil); !samePlans(p, want) || at != wantAt || e != wantE {
			t.Fatalf("Make(%s): %s, %v, %d; want %s, %v, %d", short(more), short(p), at, int(e), short(want), wantAt, int(wantE))
		}
	}
}

// drawnPlan is a plan; now and then it may not be.
func drawnPlan(r *rand.Rand) api.Plan {
	texts := func(least, most int, of ...string) []string {
		var l []string
		for range r.IntN(most + 1) {
			l = append(l, strings.Repeat(oneOf(r, of...), least+r.IntN(3)))
		}
		return l
	}
	var p api.Plan
	for n := range r.IntN(6) {
		j := api.Job{Name: fmt.Sprint(oneOf(r, "a", "b:", "\xff"), n-r.IntN(20)/19), Tries: 1 + r.IntN(5), Limit: r.IntN(1001), Manual: r.IntN(2) == 0}
		for k := range n {
			if r.IntN(3) == 0 {
				j.Needs = append(j.Needs, k+r.IntN(40)/39)
			}
		}
		j.Tags = texts(1, 3, "a", "b", "c")
		if r.IntN(8) > 0 {
			slices.Sort(j.Tags)
			j.Tags = slices.Compact(j.Tags)
		}
		for range r.IntN(3) {
			j.Vars = append(j.Vars, api.Var{Name: oneOf(r, "a", "b", "c", "d", "e", "f"), Value: oneOf(r, "", "1", "\x00", "a b")})
		}
		j.Steps = texts(0, 3, "say x", "\n", "\xff")
		j.Keep = texts(1, 3, "*", "x/", "?$")
		p.Jobs = append(p.Jobs, j)
	}
	return p
}

// P16.2, P16.4: drawn plans, held against the second telling.
func TestDrawnPlans(t *testing.T) {
	r := rand.New(rand.NewPCG(16, 4))
	may := 0
	for range 20000 {
		p := drawnPlan(r)
		checkPlan(t, p)
		if mayBe(p) {
			may++
		}
		if t.Failed() {
			return
		}
	}
	if may < 5000 || may > 19000 {
		t.Errorf("%d of 20000 plans may be", may)
	}
}
