package plan_test

import (
	"strings"
	"testing"
)

// P16.1, example 1.
func TestMake(t *testing.T) {
	checkJobs(t, ci("job b|  needs a|  do say hi|job a|  axis os x y|  do say $os"), nil,
		"a:x; vars os=x; steps say $os", "a:y; vars os=y; steps say $os", "b; needs 0 1; steps say hi")
	checkJobs(t, ci("job b|  needs a|  do say hi|job a|  axis os x y|  do say $os|  when $os == x"), nil,
		"a:x; vars os=x; steps say $os", "b; needs 0; steps say hi")
	checkJobs(t, ci(""), nil)
	checkJobs(t, ci("on x|paths y|var a 1|template t|do x"), variables("b", "2"))
	checkJobs(t, ci("job a"), nil, "a")
}

// What comes of a declared job: one for each row, the axes in the order in which their items stand, the last one going round fastest; of no axes one job.
func TestRows(t *testing.T) {
	checkJobs(t, ci("job a|axis n 1 2|axis m x y"), nil, "a:1,x; vars n=1 m=x", "a:1,y; vars n=1 m=y", "a:2,x; vars n=2 m=x", "a:2,y; vars n=2 m=y")
	checkJobs(t, ci("job a|axis m x y|do z|axis n 1"), nil, "a:x,1; vars m=x n=1; steps z", "a:y,1; vars m=y n=1; steps z")
	// A template's axes stand ahead of the job's own, but for those that it has itself.
	checkJobs(t, ci("template t|axis b 1 2|axis a x|job j|use t|axis c y|axis a z"), nil, "j:1,y,z; vars b=1 c=y a=z", "j:2,y,z; vars b=2 c=y a=z")
	// The label has a \\ ahead of what would end a part.
	checkJobs(t, ci(`job a|axis n , \ : "\"" a,b`), nil, `a:\,; vars n=,`, `a:\\; vars n=\`, `a::; vars n=:`, `a:"; vars n="`, `a:a\,b; vars n=a,b`)
	// In values no variables are put in.
	checkJobs(t, ci("var v 1|job a|axis n $v $$ $|when $n != x"), nil, "a:$v; vars v=1 n=$v", "a:$$; vars v=1 n=$$", "a:$; vars v=1 n=$")
	var all []string
	for i := range 24 {
		n := string(rune('a' + i))
		all = append(all, "j:"+n+"; vars n="+n)
	}
	checkJobs(t, ci("job j|axis n a b c d e f g h i j k l m n o p q r s t u v w x"), nil, all...)
}

// axesOf are so many items axis, each of one value.
func axesOf(n int, value string) string {
	var s strings.Builder
	for i := range n {
		s.WriteString("|axis " + string(rune('a'+i)) + " " + value)
	}
	return s.String()
}

// What comes of a declared job: none of a row of which when says no.
func TestWhen(t *testing.T) {
	checkJobs(t, ci("var v 1|job a|when $v == 1|job b|when $v == 2|job c|when not $v == 2|job d|when ${v}x ~ 1*"), nil, "a; vars v=1", "c; vars v=1", "d; vars v=1")
	checkJobs(t, ci("job a|axis m x y|axis n 1 2|when $m$n == x2 or ( $m == y and not $n == 2 )"), nil, "a:x,2; vars m=x n=2", "a:y,1; vars m=y n=1")
	checkJobs(t, ci("job a|axis m x y|when $m == z"), nil)
	// Variables are put into each word, and each is one word then, whatever it has; a value that is a word of conditions stands as one.
	checkJobs(t, ci(`var v "a b"|job a|when $v == "a b"|job b|when a == "$v"|job c|when $$v == \$v|job d|when "$$v" == "$$v"`), nil, "a; vars v=a b", "d; vars v=a b")
	checkJobs(t, ci("var o or|var e ==|var b (|var c )|var n not|job a|when a == b $o $n $b a $e b $c"), nil, "a; vars o=or e=== b=( c=) n=not")
	checkJobs(t, ci("var e \"\"|job a|when $e == \"\"|job b|when $e != \"\""), nil, "a; vars e=")
	// The template's, where the job has none itself; the own one else.
	checkJobs(t, ci("template t|when 1 == 2|job a|use t|job b|use t|when 1 == 1"), nil, "b")
	checkJobs(t, ci("template t|when $v == 1|job a|use t|var v 1|job b|use t|var v 2"), nil, "a; vars v=1")
	// The variables are the job's: a row's stand in the place of others.
	checkJobs(t, ci("var n 5|job a|axis n 1 2|when $n == 2|job b|when $n == 5"), nil, "a:2; vars n=2", "b; vars n=5")
	// Of a row without a job nothing else is asked: neither patterns, nor the label, nor whether there is one of that name, nor how many there are.
	long := strings.Repeat("x", 64)
	checkJobs(t, ci("job a|axis n 1 2|when $n == 1|keep $$n $n"), nil, "a:1; vars n=1; keep $n 1")
	checkJobs(t, ci("job a|when 1 == 2|keep $none $"), nil)
	checkJobs(t, ci("job a|when 1 == 2"+axesOf(7, long)), nil)
	checkJobs(t, ci("job a|axis n 1 1|when 1 == 2"), nil)
	checkJobs(t, ci("job a|axis n 1 2 1|when $n == 2"), nil, "a:2; vars n=2")
	var none, want []string
	for i := range 24 {
		n := string(rune('a' + i))
		none = append(none, "job "+n+"|axis n a b c d e f g h i j k l m n o p q r s t u v w x|when $n == "+n)
		want = append(want, n+":"+n+"; vars n="+n)
	}
	checkJobs(t, ci(strings.Join(none, "|")), nil, want...)
}

// What comes of a declared job: its variables, and then the row's, each in the place of one of its name, or behind.
func TestVars(t *testing.T) {
	checkJobs(t, ci("var a 1|var b 2|job j|var c 3|axis d 4|axis b 5|axis a 6"), variables("z", "0"), "j:4,5,6; vars z=0 a=6 b=5 c=3 d=4")
	checkJobs(t, ci("var a $z|job j|axis z 1 2|var b $z$a"), variables("z", "0"), "j:1; vars z=1 a=0 b=00", "j:2; vars z=2 a=0 b=00")
	checkJobs(t, ci("job j|job k"), variables("a", "1", "b", "", "a", "3"), "j; vars a=3 b=", "k; vars a=3 b=")
	checkJobs(t, ci("template t|var a 1|axis a 2|job j|use t|axis b 3|job k|use t|var a 4"), nil, "j:2,3; vars a=2 b=3", "k:2; vars a=2")
	long := strings.Repeat("x", 400)
	name := strings.Repeat("n", 24)
	checkJobs(t, ci("job j"), variables(name, long), "j; vars "+name+"="+long)
	checkJobs(t, ci("job j"), variables("a", "\x00\xff\n$none"), "j; vars a=\x00\xff\n$none")
}

// What comes of a declared job: its tags rise, each once, from all items.
func TestTags(t *testing.T) {
	checkJobs(t, ci("template t|tags m z b|job j|use t|tags a z|tags b-c b0 b_|tags a"), nil, "j; tags a b b-c b0 b_ m z")
	checkJobs(t, ci("job j|axis n 1 2|tags n"), nil, "j:1; tags n; vars n=1", "j:2; tags n; vars n=2")
	checkJobs(t, ci("job j|tags ab a abc aa"), nil, "j; tags a aa ab abc")
}

// What comes of a declared job: its steps are the arguments of the items do, in their own forms.
func TestSteps(t *testing.T) {
	checkJobs(t, ci(`template t|do a  b # remark|job j|use t|do "x" "a b" "" "#" x# $none $ ${|do "\x41\n\t\\\"\xff"|do a  b`), nil, `j; steps a b / x "a b" "" "#" x# $none $ ${ / "A\n\t\\\"\xff" / a b`)
	// As long as a line lets them be.
	long := strings.Repeat("x ", 198) + "y"
	checkJobs(t, ci("job j|do "+long), nil, "j; steps "+long)
	long = `"` + strings.Repeat(`\xff`, 98) + `abc"`
	checkJobs(t, ci("job j|do "+long), nil, "j; steps "+long)
	var want []string
	for range 40 {
		want = append(want, "x")
	}
	checkJobs(t, ci("template t"+strings.Repeat("|do x", 30)+"|job j|use t"+strings.Repeat("|do x", 10)), nil, "j; steps "+strings.Join(want, " / "))
}

// What comes of a declared job: its patterns, of all items keep, with variables put in; each time that they stand there.
func TestKeep(t *testing.T) {
	checkJobs(t, ci("var v 1|template t|keep a/$v|job j|use t|axis n x y|keep $n*$n a/1 ?|keep a/1 $$ ${n}"), nil,
		"j:x; vars v=1 n=x; keep a/1 x*x a/1 ? a/1 $ x", "j:y; vars v=1 n=y; keep a/1 y*y a/1 ? a/1 $ y")
	// A pattern has as many bytes as one may have when variables are put in, and no sooner.
	long := strings.Repeat("x", 64)
	checkJobs(t, ci("job j|keep $v"), variables("v", long), "j; vars v="+long+"; keep "+long)
	checkJobs(t, ci("job j|keep $e$e$e${e}x$e"), variables("e", ""), "j; vars e=; keep x")
	checkJobs(t, ci("job j|keep"+strings.Repeat(" x", 20)+"|keep"+strings.Repeat(" y", 20)), nil, "j; keep"+strings.Repeat(" x", 20)+strings.Repeat(" y", 20))
}

// What comes of a declared job: its tries, its limit, and whether it is manual; 1, 0 and not, if it has no such item.
func TestNumbers(t *testing.T) {
	checkJobs(t, ci("job a|tries 5|job b|limit 1000|job c|manual|job d|tries 1|limit 1|job e"), nil, "a; tries 5", "b; limit 1000", "c; manual", "d; limit 1", "e")
	checkJobs(t, ci("template t|tries 2|limit 3|manual|job a|use t|job b|use t|tries 4|limit 5|axis n 1 2"), nil, "a; tries 2; limit 3; manual", "b:1; vars n=1; tries 4; limit 5; manual", "b:2; vars n=2; tries 4; limit 5; manual")
}

// It needs all jobs that came of those declared jobs whose names its items needs tell, at their places.
func TestNeeds(t *testing.T) {
	checkJobs(t, ci("job a|job b|needs a|job c|needs b a|job d|needs c|needs a c a"), nil, "a", "b; needs 0", "c; needs 0 1", "d; needs 0 2")
	// Those of a declared job of which no job came are none.
	checkJobs(t, ci("job a|when 1 == 2|job b|needs a|job c|needs b a"), nil, "b", "c; needs 0")
	checkJobs(t, ci("job a|axis n 1 2|job b|axis n 1 2|needs a"), nil, "a:1; vars n=1", "a:2; vars n=2", "b:1; needs 0 1; vars n=1", "b:2; needs 0 1; vars n=2")
	// The template's too; a template of that name is not meant.
	checkJobs(t, ci("template t|needs a|template b|job a|job b|job c|use t|needs b"), nil, "a", "b", "c; needs 0 1")
	// Where a declared job without jobs is in the way, there is no cycle.
	checkJobs(t, ci("job a|needs b|job b|needs c|when 1 == 2|job c|needs a"), nil, "a", "c; needs 0")
	checkJobs(t, ci("job a|needs a|when 1 == 2"), nil)
	// However often it is told.
	again := strings.Repeat("|needs"+strings.Repeat(" a", 190), 7)
	checkJobs(t, ci("job a|axis n a b c d e f g h i j k l|template t"+again+"|job b|use t|axis n a b c d e f g h i j k l"+again), nil, func() []string {
		var want []string
		for i := range 12 {
			want = append(want, "a:"+string(rune('a'+i))+"; vars n="+string(rune('a'+i)))
		}
		for i := range 12 {
			want = append(want, "b:"+string(rune('a'+i))+"; needs 0 1 2 3 4 5 6 7 8 9 10 11; vars n="+string(rune('a'+i)))
		}
		return want
	}()...)
}

// P16.1: the row is that of graph.Sort: again and again the first one declared, of the first row, all of whose needs are there.
func TestRow(t *testing.T) {
	checkJobs(t, ci("job d|needs c|job c|needs b|job b|needs a|job a"), nil, "a", "b; needs 0", "c; needs 1", "d; needs 2")
	checkJobs(t, ci("job e|needs c|job d|job c|needs a|job b|job a"), nil, "d", "b", "a", "c; needs 2", "e; needs 3")
	checkJobs(t, ci("job c|needs b|axis n 1 2|job b|axis n 2 1|when $n == 1|job a|needs c b|job d"), nil, "b:1; vars n=1", "c:1; needs 0; vars n=1", "c:2; needs 0; vars n=2", "a; needs 0 1 2", "d")
	// What is included is declared ahead of those of the file that includes it.
	checkJobs(t, files("ci", "include x|job a", "x", "job c|job b|needs a"), nil, "c", "a", "b; needs 1")
}
