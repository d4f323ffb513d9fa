package expand_test

import (
	"fmt"
	"math/rand/v2"
	"slices"
	"strings"
	"testing"

	"bastion/api"
	"bastion/expand"
)

// P13.3, example 2.
func TestExpand(t *testing.T) {
	checkJobs(t, files("ci", "include lib|var a 1|job b|  use t|  var a 3|  do say $a", "lib", "template t|  tries 2|  do pre|  var b $a"), nil, "b ci 3: 2 tries 2, 3 do pre, 6 do say $a; a=3, b=1")
	checkJobs(t, files("ci", ""), nil)
	checkJobs(t, files("ci", "var a 1|on x|template t|do x"), variables("b", "2"))
	checkJobs(t, files("ci", "|job b|job a"), nil, "b ci 2: ; ", "a ci 3: ; ")
}

// P13.3: all sections stand in one row, those of what is included ahead of those of the file that includes it.
func TestRow(t *testing.T) {
	checkJobs(t, files("ci", "include x|include y|job a", "x", "include z|job b|job c", "y", "job d|job e", "z", "|job f"), nil,
		"f z 2: ; ", "b x 2: ; ", "c x 3: ; ", "d y 1: ; ", "e y 2: ; ", "a ci 3: ; ")
	// No file is taken in twice, and it is taken in where that is asked for first.
	checkJobs(t, files("ci", "include x|include y|include x|job a", "x", "include y|job b", "y", "job c"), nil, "c y 1: ; ", "b x 2: ; ", "a ci 4: ; ")
}

// P13.3: a template is found by its name, wherever it stands; items have the numbers that they have there.
func TestTemplates(t *testing.T) {
	// Behind the job, in another file, in the file that includes the job's.
	checkJobs(t, files("ci", "job a|use t|template t|do x"), nil, "a ci 1: 4 do x; ")
	checkJobs(t, files("ci", "include x|include y|job a|use t", "x", "job b|use t", "y", "||template t|do x|tags big"), nil, "b x 1: 4 do x, 5 tags big; ", "a ci 3: 4 do x, 5 tags big; ")
	checkJobs(t, files("ci", "include x|template t|do ci", "x", "job b|use t|do x"), nil, "b x 1: 3 do ci, 3 do x; ")
	// A job may be called as a template is, and use that one; a template that is not used does nothing.
	checkJobs(t, files("ci", "template t|do x|template u|do y|var v $none|job t|use t|job u|do z"), nil, "t ci 6: 2 do x; ", "u ci 8: 9 do z; ")
	checkJobs(t, files("ci", "template t|job a|use t|job b|use t|do x|do y"), nil, "a ci 2: ; ", "b ci 4: 6 do x, 7 do y; ")
	// Only an item use takes one in.
	checkJobs(t, files("ci", "template use|do x|job t|do use t|needs use|job a|use use"), nil, "t ci 3: 4 do use t, 5 needs use; ", "a ci 6: 2 do x; ")
}

// P13.3: what stands once at most is the template's only where the job does not have it itself; all else is both's.
func TestMerge(t *testing.T) {
	const template = "template t|when x|tries 2|limit 7|manual|axis os x y|axis n 1|do x|needs a|tags b|keep c||"
	items := []string{"2 when x", "3 tries 2", "4 limit 7", "5 manual", "6 axis os x y", "7 axis n 1", "8 do x", "9 needs a", "10 tags b", "11 keep c"}
	for line, without := range map[string]string{
		"when y z": "2 when x", "tries 2": "3 tries 2", "tries 1": "3 tries 2", "limit 1000": "4 limit 7", "manual": "5 manual", "axis os x y": "6 axis os x y", "axis os z": "6 axis os x y", "axis n n": "7 axis n 1",
		"do x": "", "needs a": "", "tags b": "", "keep c": "", "axis o x": "", "axis when x": "", "axis manual x y": "", "axis tries 1": "", "do manual": "", "do tries 2": "", "needs n os": "", "tags manual": "",
	} {
		var want []string
		for _, item := range items {
			if item != without {
				want = append(want, item)
			}
		}
		checkJobs(t, files("ci", template+"job j|use t|"+line), nil, "j ci 13: "+strings.Join(append(want, "15 "+line), ", ")+"; ")
		checkJobs(t, files("ci", template+"job j|"+line), nil, "j ci 13: 14 "+line+"; ")
	}
	checkJobs(t, files("ci", template+"job j|use t|manual|axis n 2|do y|when z|limit 1|do z|axis os w|tries 5"), nil,
		"j ci 13: 8 do x, 9 needs a, 10 tags b, 11 keep c, 15 manual, 16 axis n 2, 17 do y, 18 when z, 19 limit 1, 20 do z, 21 axis os w, 22 tries 5; ")
	// Another job that uses it has all of it.
	checkJobs(t, files("ci", "template t|manual|do x|job a|use t|manual|job b|use t|job c|manual"), nil, "a ci 4: 3 do x, 6 manual; ", "b ci 7: 2 manual, 3 do x; ", "c ci 9: 10 manual; ")
	// As many items as there may be.
	full := strings.Repeat("do x|", 40)
	l, _, e := check(t, files("ci", "template t|"+full+"job j|use t|"+full[5:]), "ci", nil)
	if e != api.OK || len(l[0].Items) != 79 {
		t.Errorf("a template of 40 items and a job of 40: %s, %d", short(l), int(e))
	}
}

// P13.3: of an item var nothing is left but the variable, at whatever place it stands; in all other items no variables are put in.
func TestItems(t *testing.T) {
	checkJobs(t, files("ci", "template t|var a 1|do $a ${b} $|when $a == $$|var b 2|job j|use t|var c 3|do $c|axis n $a|keep $a/*|tags var|do var x 1|var d 4"), nil,
		"j ci 6: 3 do $a ${b} $, 4 when $a == $$, 9 do $c, 10 axis n $a, 11 keep $a/*, 12 tags var, 13 do var x 1; a=1, b=2, c=3, d=4")
	checkJobs(t, files("ci", `job j|do "" "a b" "\xff\n"|var v ""|var w "a b"`), nil, "j ci 1: 2 do  a b \xff\n; v=, w=a b")
}

// P13.3: variables: given ones, those of all heads, of the template, of the job; of one name the last one's value, at the first one's place.
func TestVars(t *testing.T) {
	tree := files("ci", "var h 1|include x|var i 2|template t|var a $h|var g t|job j|use t|var b $a|var h 9|job k|var b $h", "x", "var x 3|var h $h$h")
	checkJobs(t, tree, nil, "j ci 7: ; h=9, x=3, i=2, a=11, g=t, b=11", "k ci 11: ; h=11, x=3, i=2, b=11")
	checkJobs(t, tree, variables("g", "0", "i", "i"), "j ci 7: ; g=t, i=2, h=9, x=3, a=11, b=11", "k ci 11: ; g=0, i=2, h=11, x=3, b=11")
	checkJobs(t, tree, variables("b", "0", "h", "0", "b", "5"), "j ci 7: ; b=11, h=9, x=3, i=2, a=11, g=t", "k ci 11: ; b=11, h=11, x=3, i=2")
	// The variables that there are by then: not those behind, not another section's, the own one too.
	checkJobs(t, files("ci", "var a 1|var a $a$a|var a ${a}0|job j|var a $a$a|var a $a."), nil, "j ci 4: ; a=110110.")
	checkJobs(t, files("ci", "var a 1|template t|var a 2|var b $a|job j|use t|var a 3|var c $b$a|job k|var c $a|template u|var a 4|job l|use u"), nil, "j ci 5: ; a=3, b=2, c=23", "k ci 9: ; a=1, c=1", "l ci 13: ; a=4")
	// A $ that is told stays one, and is not looked at again.
	checkJobs(t, files("ci", "var a $$b|var b $a|var c $$$$|job j|var d $b$c"), nil, "j ci 4: ; a=$b, b=$b, c=$$, d=$b$$")
	// Heads are taken in the order of their row: what is included stands at its include.
	checkJobs(t, files("ci", "include x|var a 2|include y|job j", "x", "var a 1", "y", "var b $a"), nil, "j ci 4: ; a=2, b=2")
	checkJobs(t, files("ci", "include x|include y|var a 2|job j", "x", "var a 1", "y", "var b $a"), nil, "j ci 4: ; a=2, b=1")
}

// P13.3: given variables are taken as they are: of any name, with any value.
func TestGiven(t *testing.T) {
	tree := files("ci", "job j")
	checkJobs(t, tree, variables("a", "1", "b", "2", "a", "3", "c", "4", "a", "5", "b", ""), "j ci 1: ; a=5, b=, c=4")
	checkJobs(t, tree, variables("", "1", "A b", "$x $", "", "2", "$", "\xff"), "j ci 1: ; =2, A b=$x $, $=\xff")
	long := strings.Repeat("x", 500)
	checkJobs(t, tree, variables("a", long), "j ci 1: ; a="+long)
	checkJobs(t, files("ci", "var b $a|job j"), variables("a", "$b $"), "j ci 2: ; a=$b $, b=$b $")
	if _, at, e := check(t, files("ci", "var c 1|var b $a"), "ci", variables("a", long)); at.Line != 2 || e != api.ErrTooLarge {
		t.Errorf("a given value that is too long: %v, %d", at, int(e))
	}
	if _, at, e := check(t, files("ci", "var b ${A}"), "ci", variables("A", "1")); at.Line != 1 || e != api.ErrForm {
		t.Errorf("a given name that is none: %v, %d", at, int(e))
	}
}

// numbered are n lines, each with its number, from 0 on, for a %.
func numbered(n int, line string) string {
	var to strings.Builder
	for i := range n {
		to.WriteString(strings.ReplaceAll(line, "%", fmt.Sprint(i)) + "|")
	}
	return to.String()
}

// The table of errors: a second template, or job, of a name; too many; at the section's line, section by section.
func TestSections(t *testing.T) {
	for _, kind := range []string{"job", "template"} {
		checkWrong(t, files("ci", "include x|||"+kind+" a", "x", kind+" a"), "ci", 4, api.ErrTwice)
		checkWrong(t, files("ci", "include x|include y|"+kind+" c", "x", kind+" a|"+kind+" c", "y", kind+" b|do x|"+kind+" a"), "y", 3, api.ErrTwice)
		checkWrong(t, files("ci", "include x|"+numbered(12, kind+" b%")+kind+" last", "x", numbered(12, kind+" a%")), "ci", 14, api.ErrFull)
		checkWrong(t, files("ci", "include x|"+numbered(12, kind+" b%")+kind+" a3", "x", numbered(12, kind+" a%")), "ci", 14, api.ErrTwice)
		checkWrong(t, files("ci", "include x|include y|"+kind+" a0", "x", numbered(24, kind+" a%"), "y", "||"+kind+" b"), "y", 3, api.ErrFull)
		if _, _, e := check(t, files("ci", "include x|include y|"+kind+" b", "x", numbered(23, kind+" a%"), "y", ""), "ci", nil); e != api.OK {
			t.Errorf("24 sections %s: %d", kind, int(e))
		}
	}
	// A template and a job are in nobody's way.
	if l, _, e := check(t, files("ci", "include x|"+numbered(24, "template a%"), "x", numbered(24, "job a%|use a%")), "ci", nil); e != api.OK || len(l) != 24 {
		t.Errorf("24 templates and 24 jobs: %d, %d", len(l), int(e))
	}
	checkWrong(t, files("ci", "include x|template b|job b|job a", "x", "job a|template a"), "ci", 4, api.ErrTwice)
}

// The table of errors: taking in, then sections, then the heads' variables, then job by job.
func TestExpandOrder(t *testing.T) {
	checkWrong(t, files("ci", "include x|include y|var a $none|job a|job b|use none", "x", "job a", "y", "\""), "y", 1, api.ErrForm)
	checkWrong(t, files("ci", "include x|include y|var a $none|job a|job b|use none", "x", "job a|use none|var a $", "y", "var a $"), "ci", 4, api.ErrTwice)
	checkWrong(t, files("ci", "include x|include y|var a $none|job b|use none", "x", "job a|use none|var a $", "y", "|var a $"), "y", 2, api.ErrForm)
	checkWrong(t, files("ci", "include x|var a $none|job b|use none", "x", "job a|use none|var a $"), "ci", 2, api.ErrName)
	checkWrong(t, files("ci", "include x|var a 1|job b|use none", "x", "|job a|use none|var a $"), "x", 3, api.ErrName)
	checkWrong(t, files("ci", "include x|var a 1|job b|use none", "x", "job a|do x|var a $"), "x", 3, api.ErrForm)
	checkWrong(t, files("ci", "include x|var a 1|job b|use none", "x", "job a|do x|var b $a"), "ci", 4, api.ErrName)
	// The heads' variables are asked for where there is no job, too; they see nothing of what is behind them.
	checkWrong(t, files("ci", "var b 1|var a $c|var c 1"), "ci", 2, api.ErrName)
	checkWrong(t, files("ci", "include x|var a 1", "x", "|var b $a"), "x", 2, api.ErrName)
	checkWrong(t, files("ci", "var a $a"), "ci", 1, api.ErrName)
	// The template's are told at its own path and line, ahead of the job's.
	checkWrong(t, files("ci", "include x|job a|use t|var b $", "x", "|template t|do x|var a $none"), "x", 4, api.ErrName)
	checkWrong(t, files("ci", "include x|job a|use t|var b $|var c $none", "x", "|template t|do x|var a 1"), "ci", 4, api.ErrForm)
	checkWrong(t, files("ci", "include x|job a|use t|var own 1", "x", "template t|var a $own"), "x", 2, api.ErrName)
	// Those of a template that no job uses are not asked for, nor is a job's template behind a job that is wrong.
	checkWrong(t, files("ci", "template t|var a $|job a|var a 1|job b|var b $c|job c|use t"), "ci", 6, api.ErrName)
	checkJobs(t, files("ci", "template t|var a $|job a"), nil, "a ci 3: ; ")
	// One job does not see another one's.
	checkWrong(t, files("ci", "template t|var v 1|job a|use t|var w 1|job b|var x $v"), "ci", 7, api.ErrName)
	checkWrong(t, files("ci", "template t|var v 1|job a|use t|var w 1|job b|use t|var x $w"), "ci", 8, api.ErrName)
	// A job is no template, and no template has another name.
	checkWrong(t, files("ci", "job t|job a|use t"), "ci", 3, api.ErrName)
	checkWrong(t, files("ci", "template t-1|job a|use t"), "ci", 3, api.ErrName)
	checkWrong(t, files("ci", "job a|use t", "lib", "template t"), "ci", 2, api.ErrName)
}

// The table of errors: a variable's value has MaxLine bytes at most.
func TestValuesTooLarge(t *testing.T) {
	x := strings.Repeat("x", 200)
	checkJobs(t, files("ci", "var a "+x+"|job j|var b $a$a"), nil, "j ci 2: ; a="+x+", b="+x+x)
	checkWrong(t, files("ci", "var a "+x+"|job j|var b $a$a."), "ci", 3, api.ErrTooLarge)
	checkWrong(t, files("ci", "var a "+x+"|var b $a$a.|job j|var b $"), "ci", 2, api.ErrTooLarge)
	checkWrong(t, files("ci", "var a "+x+"|template t|var c $a.$a|job j|use t"), "ci", 3, api.ErrTooLarge)
	checkWrong(t, files("ci", "var a "+x+"|job j|var b $a$a.$none"), "ci", 3, api.ErrName)
}

// drawnItems are lines of a section of a drawn tree.
func drawnItems(r *rand.Rand, value func() string) []string {
	var l []string
	for range r.IntN(5) {
		l = append(l, oneOf(r, "var a "+value(), "var d "+value(), "do x", "do $a y", "manual", "tries 2", "limit 3", "when x == x", "axis os x", "axis n 1 2", "needs a", "tags b", "keep *"))
	}
	return l
}

// drawnTree is a tree of files, most of them such as may be taken in.
func drawnTree(r *rand.Rand) []api.File {
	paths := []string{"ci", "lib", "a/b", "c", "d", "ci"}
	value := func() string { return oneOf(r, "1", "2", "$a", "${b}$c", "x$$y", `""`, "$a-$d", "plain", "$d") }
	var tree []api.File
	templates := []string{"s00"}
	for i := range 1 + r.IntN(len(paths)) {
		var l []string
		for range r.IntN(4) {
			l = append(l, oneOf(r, "include lib", "include a/b", "include c", "include "+paths[min(i+1, 4)], "var a "+value(), "var b "+value(), "var c 1", "var d 2", "on x", "paths y z"))
		}
		for k := range r.IntN(4) {
			// Few sections have a name of one in another file.
			name := fmt.Sprintf("s%d%d", oneOf(r, i, i, i, i, i, 1), k)
			switch r.IntN(4) {
			case 0:
				l = append(l, "job "+name)
			case 1:
				l = append(l, "template "+name)
				templates = append(templates, name)
			default:
				l = append(l, "job "+name, "use "+oneOf(r, templates...))
			}
			l = append(l, drawnItems(r, value)...)
		}
		if r.IntN(30) == 0 {
			l = slices.Insert(l, r.IntN(len(l)+1), oneOf(r, "\"", "job A", "include no", "include ci", "var x $no", "var x $"))
		}
		tree = append(tree, api.File{Path: paths[i], Data: strings.Join(l, "\n")})
	}
	return tree
}

func oneOf[T any](r *rand.Rand, l ...T) T { return l[r.IntN(len(l))] }

// P13.2, P13.3: trees drawn at random.
func TestDrawn(t *testing.T) {
	r := rand.New(rand.NewPCG(13, 3))
	counts := map[api.Errno]int{}
	jobs, templates := 0, 0
	for range 20000 {
		given := variables("a", "ga", "c", "gc", "b", "$a", "d", "", "a", "g$a")[:max(r.IntN(6), r.IntN(6))]
		l, _, e := check(t, drawnTree(r), "ci", given)
		counts[e]++
		jobs += len(l)
		for _, d := range l {
			// An item with a number below that of the job's own line is a template's.
			if len(d.Items) > 0 && d.Items[0].No < d.No {
				templates++
			}
		}
	}
	for _, e := range []api.Errno{api.OK, api.ErrNone, api.ErrForm, api.ErrTwice, api.ErrName, api.ErrCycle} {
		if counts[e] < 200 {
			t.Errorf("of 20000 trees %d are answered with %d", counts[e], int(e))
		}
	}
	if jobs < 2000 || templates < 400 {
		t.Errorf("%d jobs, %d of them with a template's items", jobs, templates)
	}
}

// P13.3 with R1: it ends soon, however much it is handed.
func TestExpandOfVeryMuch(t *testing.T) {
	const much = 1 << 16
	var tree []api.File
	// Each file of the tree has 40 includes; each one is asked for by many.
	for i := range much {
		var to strings.Builder
		for k := range 40 {
			fmt.Fprintf(&to, "include f%d\n", min(i*40+k+1, much-1))
		}
		tree = append(tree, api.File{Path: fmt.Sprint("f", i), Data: to.String()})
	}
	tree[much-1].Data = "on x"
	if l, at, e := expand.Heads(tree, "f0"); e != api.OK || len(l) != 1 {
		t.Errorf("Heads of very many files: %d, %v, %d", len(l), at, int(e))
	}
	var given []api.Var
	for i := range much {
		given = append(given, api.Var{Name: fmt.Sprint("v", i), Value: "x"}, api.Var{Name: "twice", Value: fmt.Sprint(i)})
	}
	vars := numbered(20, "var a% $v0$v65535$twice")
	l, at, e := expand.Expand(files("ci", vars+numbered(24, "job j%|"+vars)), "ci", given)
	if e != api.OK || len(l) != 24 || len(l[0].Vars) != much+1+20 || l[23].Vars[1] != (api.Var{Name: "twice", Value: "65535"}) || l[23].Vars[much+1].Value != "xx65535" {
		t.Errorf("Expand of very many variables: %d, %v, %d", len(l), at, int(e))
	}
}
