package plan_test

import (
	"fmt"
	"slices"
	"strings"
	"testing"

	"bastion/api"
	"bastion/plan"
)

var (
	x64  = strings.Repeat("x", 64)
	x399 = strings.Repeat("x", 399)
)

// Make, given variables: no name, then too many bytes; variable by variable, told of the path that was asked for, ahead of all else.
func TestGiven(t *testing.T) {
	good, none := ci("job a"), files("ci", "include none|job A", "x", "job a")
	long := variables("v", x399+"xy")
	for _, tree := range [][]api.File{good, none, nil} {
		for _, name := range []string{"", "A", "1", "-a", "_", "a b", "a.b", "$a", "\xff", "a\n", strings.Repeat("n", 25)} {
			checkGiven(t, tree, variables(name, "1"), "ci", 0, api.ErrName)
			checkGiven(t, tree, variables("b", "", name, ""), "ci", 0, api.ErrName)
			checkGiven(t, tree, variables(name, x399+"xx"), "ci", 0, api.ErrName)
			checkGiven(t, tree, slices.Concat(variables(name, ""), long), "ci", 0, api.ErrName)
			checkGiven(t, tree, slices.Concat(long, variables(name, "")), "ci", 0, api.ErrTooLarge)
		}
		checkGiven(t, tree, long, "ci", 0, api.ErrTooLarge)
		checkGiven(t, tree, slices.Concat(variables("a", "1"), long, variables("b", "2")), "ci", 0, api.ErrTooLarge)
	}
	for _, path := range []string{"", "x", "none", "../x\xff"} {
		if p, at, e := check(t, none, path, long); len(p.Jobs) > 0 || at.Path != path || at.Line != 0 || e != api.ErrTooLarge {
			t.Errorf("of %q the second telling says %v, %d", path, at, int(e))
		}
	}
	checkJobs(t, good, variables("a-9_", x399+"x"), "a; vars a-9_="+x399+"x")
}

// Make: what Expand answers, where it does.
func TestExpandErrors(t *testing.T) {
	checkWrong(t, nil, "ci", 0, api.ErrNone)
	checkWrong(t, files("x", "job a"), "ci", 0, api.ErrNone)
	checkWrong(t, files("ci", "job a|include x"), "ci", 2, api.ErrForm)
	checkWrong(t, files("ci", "include x", "x", "|include ci"), "x", 2, api.ErrCycle)
	checkWrong(t, files("ci", "include x|job a", "x", "job b|do"), "x", 2, api.ErrForm)
	checkWrong(t, files("ci", "include x|job a", "x", "|job a"), "ci", 2, api.ErrTwice)
	checkWrong(t, ci("job a|axis n 1 1|job b|var v $none"), "ci", 4, api.ErrName)
	checkWrong(t, ci("job a|needs none|job b|use t"), "ci", 4, api.ErrName)
	checkWrong(t, ci("job a|axis n|job b|needs none"), "ci", 2, api.ErrForm)
}

// Make: more rows than there may be, more steps, more patterns; whatever when says.
func TestTooMany(t *testing.T) {
	checkWrong(t, ci("|job a|axis x 1 2 3 4 5|axis y 1 2 3 4 5"), "ci", 2, api.ErrFull)
	checkWrong(t, ci("|job a|axis x 1 2 3 4 5|axis y 1 2 3 4 5|when 1 == 2"), "ci", 2, api.ErrFull)
	checkWrong(t, ci("job a|axis x 1 2 3 4 5|axis y 1 2 3 4 5|when $"), "ci", 1, api.ErrFull)
	for steps := 39; steps <= 41; steps++ {
		do := strings.Repeat("|do x", steps-20)
		keep := "|keep" + strings.Repeat(" x", steps-20) + "|keep" + strings.Repeat(" y", 20)
		for _, more := range []string{"", "|when 1 == 2", "|axis n 1 2"} {
			doing := files("ci", "include x|job a|use t"+more+do, "x", "job b|template t"+strings.Repeat("|do y", 20))
			keeping := files("ci", "include x|job a|use t"+more, "x", "job b|template t"+keep)
			if steps <= 40 {
				if _, _, e := check(t, doing, "ci", nil); e != api.OK {
					t.Errorf("%d steps: %d", steps, int(e))
				}
				if _, _, e := check(t, keeping, "ci", nil); e != api.OK {
					t.Errorf("%d patterns: %d", steps, int(e))
				}
				continue
			}
			checkWrong(t, doing, "ci", 2, api.ErrFull)
			checkWrong(t, keeping, "ci", 2, api.ErrFull)
		}
		if steps > 40 {
			// Ahead of what is asked row by row; steps and patterns are not counted together.
			checkWrong(t, files("ci", "job a|use t|when $none"+do+"|template t"+strings.Repeat("|do y", 20)), "ci", 1, api.ErrFull)
			checkWrong(t, ci("job a|when $none"+keep), "ci", 1, api.ErrFull)
		}
	}
	checkJobs(t, ci("job a|keep"+strings.Repeat(" x", 40)+strings.Repeat("|do x", 39)), nil, "a; steps "+strings.Repeat("x / ", 38)+"x; keep"+strings.Repeat(" x", 40))
}

// Make: of when what Subst answers, then what expr.Value does.
func TestWhenErrors(t *testing.T) {
	for when, e := range map[string]api.Errno{
		"$ == $none": api.ErrForm, "$none == $": api.ErrName, "$v == $none": api.ErrTooLarge, "$none == $v": api.ErrName,
		"$none": api.ErrName, "and $none": api.ErrName, "and $v": api.ErrTooLarge, "and": api.ErrForm, "x": api.ErrForm, "x == ${n}": api.ErrName, "$Y": api.ErrForm,
		strings.Repeat("not ", 65) + "a == b": api.ErrDeep, strings.Repeat("not ", 65) + "$none": api.ErrName, strings.Repeat("( ", 65): api.ErrDeep,
	} {
		checkWrong(t, files("ci", "var w "+x399[:99]+"|var x $w$w$w|include x", "x", "|job a|when "+strings.ReplaceAll(when, "$v", "$x$x")), "x", 2, e)
	}
	checkWrong(t, ci("job a|when $o"), "ci", 1, api.ErrName)
	checkWrong(t, ci("var o or|job a|when a == a $o"), "ci", 2, api.ErrForm)
	checkJobs(t, ci("job a|when "+strings.Repeat("not ", 64)+"a == a"), nil, "a")
	// The template's when is told of the job.
	checkWrong(t, ci("template t|when $none|job a|use t"), "ci", 3, api.ErrName)
	// Ahead of what keep asks, and of the label.
	checkWrong(t, ci("job a|when $none|keep $"), "ci", 1, api.ErrName)
	checkWrong(t, ci("job a|when x|keep $none"), "ci", 1, api.ErrForm)
	checkWrong(t, ci("job a|when x"+axesOf(7, x64)), "ci", 1, api.ErrForm)
}

// Make: of keep what Subst answers, then that it is no pattern.
func TestKeepErrors(t *testing.T) {
	given := variables("w", x399, "e", "", "b", "a b", "n", "\n", "c", "\x7f", "l", x64)
	for keep, e := range map[string]api.Errno{
		"$": api.ErrForm, "$none": api.ErrName, "$w$w": api.ErrTooLarge, "$e": api.ErrForm, "$b": api.ErrForm, "$n": api.ErrForm, "$c": api.ErrForm, "${l}x": api.ErrForm, "$w": api.ErrForm,
		"a $e": api.ErrForm, "a $none $": api.ErrName, "a $ $none": api.ErrForm, "$none $e": api.ErrName, "$e $none": api.ErrName, "$b $w$w": api.ErrTooLarge,
	} {
		checkGiven(t, ci("|job a|keep "+keep), given, "ci", 2, e)
		checkGiven(t, ci("template t|keep "+keep+"|job b|job a|use t|keep x"), given, "ci", 4, e)
	}
	checkGiven(t, ci("job a|keep x $l|keep $none"), given, "ci", 1, api.ErrName)
	// Ahead of the label, of one of that name, and of too many jobs.
	checkWrong(t, ci("job a|keep $none"+axesOf(7, x64)), "ci", 1, api.ErrName)
	checkWrong(t, ci("job a|axis n 1 1|when $n == 1|keep $$ $none"), "ci", 1, api.ErrName)
	// Row by row: an earlier row's patterns ahead of a later row's condition.
	checkWrong(t, ci("var v x|job a|axis o a $|when $o == $o|axis p 1|keep $none"), "ci", 2, api.ErrName)
	checkWrong(t, ci("job a|axis o == x|when a $o a|keep $none"), "ci", 1, api.ErrName)
	checkWrong(t, ci("job a|axis o x ==|when a $o a|keep $none"), "ci", 1, api.ErrForm)
}

// Make: a label of as many bytes as a line has, and of one more.
func TestLabelErrors(t *testing.T) {
	long := strings.Repeat("n", 24)
	for size := 54; size <= 58; size++ {
		for _, more := range []string{"x", `\`, ",", ":"} {
			last := more + strings.Repeat("x", size-1)
			text := "|job " + long + axesOf(5, x64[:63]) + "|axis z " + last
			bytes := 24 + 5*64 + 1 + size
			if more == `\` || more == "," {
				bytes++
			}
			if bytes > 400 {
				checkWrong(t, ci(text), "ci", 2, api.ErrTooLarge)
			} else if p, _, e := check(t, ci(text), "ci", nil); e != api.OK || len(p.Jobs[0].Name) != bytes {
				t.Errorf("a name of %d bytes: %s, %d", bytes, short(p), int(e))
			}
		}
	}
	// Of one row only; ahead of one of that name, and of too many jobs.
	checkWrong(t, ci("job a"+axesOf(6, x64)+"|axis z 1 "+x64+" 1"), "ci", 1, api.ErrTooLarge)
	checkWrong(t, ci("job a"+axesOf(6, x64)+"|axis z 1 1 "+x64), "ci", 1, api.ErrTwice)
	checkWrong(t, ci("job a"+axesOf(6, x64)+"|axis z 1 1 "+x64+"|when $z != 1"), "ci", 1, api.ErrTooLarge)
	checkWrong(t, ci(manyJobs(22)+"|axis n 1 2 3|job z"+axesOf(7, x64)), "ci", 24, api.ErrTooLarge)
}

// manyJobs are sections of so many jobs, on as many lines.
func manyJobs(n int) string {
	var l []string
	for i := range n {
		l = append(l, fmt.Sprintf("job j%d", i))
	}
	return strings.Join(l, "|")
}

// Make: an earlier row made a job of that name; then more jobs than there may be.
func TestTwiceAndFull(t *testing.T) {
	checkWrong(t, ci("job a|axis n 1 1"), "ci", 1, api.ErrTwice)
	checkWrong(t, ci("|job a|axis n 1 2|axis m 3 4 3"), "ci", 2, api.ErrTwice)
	checkJobs(t, ci("job a|axis n 1 2|axis m 3 4 3|when $m == 4"), nil, "a:1,4; vars n=1 m=4", "a:2,4; vars n=2 m=4")
	// Labels that look alike are not.
	checkJobs(t, ci(`job a|axis n x,y x|axis m z y,z`), nil, `a:x\,y,z; vars n=x,y m=z`, `a:x\,y,y\,z; vars n=x,y m=y,z`, `a:x,z; vars n=x m=z`, `a:x,y\,z; vars n=x m=y,z`)
	for n := 1; n <= 22; n++ {
		text := manyJobs(n) + "|job z|axis n x y"
		if p, _, e := check(t, ci(text), "ci", nil); e != api.OK || len(p.Jobs) != n+2 {
			t.Errorf("%d jobs: %s, %d", n+2, short(p), int(e))
		}
		checkWrong(t, ci(text+" y"), "ci", n+1, api.ErrTwice)
	}
	checkWrong(t, ci(manyJobs(23)+"|job z|axis n x y"), "ci", 24, api.ErrFull)
	checkWrong(t, ci(manyJobs(23)+"|job z|axis n x x y"), "ci", 24, api.ErrTwice)
	checkWrong(t, ci(manyJobs(23)+"|job z|axis n x y x"), "ci", 24, api.ErrFull)
	checkJobs24(t, manyJobs(23)+"|job z|axis n x y|when $n == y")
	// 24 jobs that are declared, one of which makes two.
	checkWrong(t, ci(strings.Replace(manyJobs(24), "job j0|", "job j0|axis n 1 2|", 1)), "ci", 25, api.ErrFull)
	checkWrong(t, ci(strings.Replace(manyJobs(24), "job j0|", "job j0|axis n 1 2|", 1)+"|needs none"), "ci", 25, api.ErrFull)
	checkJobs24(t, manyJobs(24))
	checkJobs24(t, strings.Replace(manyJobs(24), "job j0|", "job j0|axis n 1 2|when $n == 2|", 1))
	// Declared job by declared job: an earlier one's jobs ahead of what is wrong with a later one, a later one's first ahead of what it needs.
	checkWrong(t, ci("job a|axis n 1 1|job b|when x"), "ci", 1, api.ErrTwice)
	checkWrong(t, ci("job a|when x|job b|axis n 1 1"), "ci", 1, api.ErrForm)
	checkWrong(t, ci("job a|keep $none|job b"+axesOf(2, "1 2 3 4 5")), "ci", 1, api.ErrName)
	checkWrong(t, ci("job a"+axesOf(2, "1 2 3 4 5")+"|job b|keep $none"), "ci", 1, api.ErrFull)
}

// checkJobs24 is check of a text of which must come as many jobs as there may be.
func checkJobs24(t *testing.T, text string) {
	t.Helper()
	if p, at, e := check(t, ci(text), "ci", nil); e != api.OK || len(p.Jobs) != 24 {
		t.Errorf("24 jobs: %s, %v, %d", short(p), at, int(e))
	}
}

// Make, example 2: a declared job needs one that is not declared: behind all that is wrong with jobs, and ahead of cycles.
func TestNeedsErrors(t *testing.T) {
	checkWrong(t, ci("job a|  needs c"), "ci", 1, api.ErrName)
	checkWrong(t, files("ci", "include x|job a|needs b", "x", "|job b|needs a c"), "x", 2, api.ErrName)
	checkWrong(t, ci("job a|needs b|job b|needs a|job c|needs a|needs d"), "ci", 5, api.ErrName)
	checkWrong(t, ci("job a|needs none|job b|needs nil"), "ci", 1, api.ErrName)
	checkWrong(t, ci("job a|needs none|job b|when x"), "ci", 3, api.ErrForm)
	checkWrong(t, ci("job a|needs none|job b|axis n 1 1"), "ci", 3, api.ErrTwice)
	// One of which no job comes, too; a template of that name is none, nor a job's label.
	checkWrong(t, ci("job a|needs none|when 1 == 2"), "ci", 1, api.ErrName)
	checkWrong(t, ci("template t|job a|needs t"), "ci", 2, api.ErrName)
	checkWrong(t, ci("template t|needs none|job b|job a|use t"), "ci", 4, api.ErrName)
	checkJobs(t, ci("template t|needs none|job b|job a"), nil, "b", "a")
}

// Make, example 2: jobs that need one another: told of the first declared job that has one which rests on itself.
func TestCycles(t *testing.T) {
	checkWrong(t, ci("job a|  needs a"), "ci", 1, api.ErrCycle)
	checkWrong(t, ci("|job a|axis n 1 2|needs a"), "ci", 2, api.ErrCycle)
	checkWrong(t, ci("job a|needs b|job b|needs c|job c|needs d|job d|needs c"), "ci", 5, api.ErrCycle)
	checkWrong(t, ci("job a|job b|needs d|job c|needs b|job d|needs c"), "ci", 2, api.ErrCycle)
	checkWrong(t, ci("job a|needs b c|when 1 == 2|job b|needs c|job c|needs a|job d|needs e|job e|needs d"), "ci", 8, api.ErrCycle)
	checkWrong(t, files("ci", "include x|job a|needs b", "x", "job c|job b|needs a"), "x", 2, api.ErrCycle)
	checkWrong(t, files("ci", "include x|job a|needs a|job c|needs a", "x", "job b|needs a"), "ci", 2, api.ErrCycle)
	// One row's job alone.
	checkWrong(t, ci("job a|axis n 1 2|when $n == 2|needs b|job b|needs a"), "ci", 1, api.ErrCycle)
	checkJobs(t, ci("job a|axis n 1 2|when $n == 3|needs b|job b|needs a"), nil, "b")
	// Ahead of too many bytes.
	checkGiven(t, ci(manyJobs(24)+"|needs j23"), bigVars(4, 400), "ci", 24, api.ErrCycle)
}

// bigVars are variables with so many bytes each.
func bigVars(n, size int) []api.Var {
	var l []api.Var
	for i := range n {
		l = append(l, api.Var{Name: fmt.Sprintf("v%d", i), Value: strings.Repeat("x", size)})
	}
	return l
}

// Make: a plan of as many bytes as it may have, and of one more: told of the path that was asked for.
func TestTooManyBytes(t *testing.T) {
	great := func(n int, rest string) []api.File {
		return files("ci", "include x|job b|var y "+strings.Repeat("y", n)+rest, "x", "job a")
	}
	// Two jobs have each given variable, one has y.
	given := append(bigVars(40, 400), api.Var{Name: "z", Value: x64})
	p, _, e := check(t, great(1, ""), "ci", given)
	room := plan.MaxBytes - len(bytesTold(p))
	if e != api.OK || room < 2 || room > 300 {
		t.Fatalf("room for %d bytes, %d", room, int(e))
	}
	for n := 1; n < 300; n++ {
		// A value of 128 bytes has a byte more for how many they are.
		bytes := n - 1 + n/128
		p, at, e := check(t, great(n, ""), "ci", given)
		if bytes <= room && (e != api.OK || len(bytesTold(p)) != plan.MaxBytes-room+bytes) {
			t.Errorf("%d bytes more: %v, %d", bytes, at, int(e))
		}
		if bytes > room {
			checkGiven(t, great(n, ""), given, "ci", 0, api.ErrFull)
		}
	}
	// One job has room for more.
	if p, at, e := check(t, great(1, ""), "x", bigVars(50, 400)); e != api.OK || len(p.Jobs) != 1 {
		t.Errorf("one job of 50 great variables: %s, %v, %d", short(p), at, int(e))
	}
	if _, at, e := check(t, great(1, ""), "x", bigVars(90, 400)); e != api.ErrFull || at.Path != "x" || at.Line != 0 {
		t.Errorf("one job of 90 great variables: %v, %d", at, int(e))
	}
	checkJobs(t, ci("on x"), bigVars(500, 400))
	// All else is told ahead of it.
	checkGiven(t, great(1, "|needs none"), bigVars(50, 400), "ci", 2, api.ErrName)
	checkGiven(t, great(1, "|needs b"), bigVars(50, 400), "ci", 2, api.ErrCycle)
	checkGiven(t, great(1, "|axis n 1 1"), bigVars(50, 400), "ci", 2, api.ErrTwice)
}
