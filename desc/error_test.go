package desc_test

import (
	"strconv"
	"strings"
	"testing"

	"bastion/api"
)

// Example 2.
func TestParseWrong(t *testing.T) {
	checkWrong(t, "use t", 1, api.ErrForm)
	checkWrong(t, "job A", 1, api.ErrName)
	checkWrong(t, "job a\njob a", 2, api.ErrTwice)
	checkWrong(t, "job a\ntries 9", 2, api.ErrArg)
	checkWrong(t, "job a\ndo", 2, api.ErrForm)
	checkWrong(t, "job a\nmanual\nuse t", 3, api.ErrForm)
	checkWrong(t, "include ../x", 1, api.ErrForm)
}

// many are n lines, each with its number, from 0 on, for a %.
func many(n int, line string) string {
	var to strings.Builder
	for i := range n {
		to.WriteString(strings.ReplaceAll(line, "%", strconv.Itoa(i)) + "\n")
	}
	return to.String()
}

// The table of errors: what words.Split answers goes ahead of all else in a line.
func TestSplitFirst(t *testing.T) {
	long := "job " + strings.Repeat("A ", 200)
	checkWrong(t, long, 1, api.ErrTooLarge)
	checkWrong(t, long[:400], 1, api.ErrForm)
	checkWrong(t, "on x\n\n  "+long, 3, api.ErrTooLarge)
	checkWrong(t, long+"\"", 1, api.ErrTooLarge)
	checkWrong(t, "job a\njob a \"", 2, api.ErrForm)
	checkWrong(t, "job A\x00", 1, api.ErrForm)
	checkWrong(t, "job A\r\n", 1, api.ErrForm)
	checkWrong(t, "job a\n tries 9 \"\\q\"", 2, api.ErrForm)
	checkWrong(t, many(24, "job j%")+"job j1\"", 25, api.ErrForm)
	checkWrong(t, "#"+strings.Repeat("a", 400), 1, api.ErrTooLarge)
	checkRight(t, "#"+strings.Repeat("a", 399))
	checkWrong(t, "do "+strings.Repeat(" ", 398), 1, api.ErrTooLarge)
	checkWrong(t, "do "+strings.Repeat(" ", 397), 1, api.ErrForm)
	checkRight(t, "job a"+strings.Repeat(" ", 395)+"\n")
}

// The table of errors: of several faults in one line the first one in its order.
func TestOrderInLine(t *testing.T) {
	head, job := many(40, "on x"), "job j\n"
	full := job + many(40, "do x")
	for _, c := range []struct {
		ahead, line string
		e           api.Errno
	}{
		// No such word, or not as many arguments: ahead of a name, a text and a number that are none.
		{"", "use A", api.ErrForm}, {"", "tries 9", api.ErrForm}, {"", "axis A \"\"", api.ErrForm}, {job, "on \"\"", api.ErrForm}, {job, "do x\nuse A", api.ErrForm},
		{job, "axis A", api.ErrForm}, {job, "tries 9 9", api.ErrForm}, {job, "job A b", api.ErrForm}, {"", "var A", api.ErrForm},
		// A name: ahead of a text.
		{job, "axis A \"\"", api.ErrName}, {job, "axis \"a b\" \"a b\"", api.ErrName}, {job, "axis A x", api.ErrName},
		// Ahead of what stands there already, and of what is full, each of the others.
		{job + "manual\n", "manual x", api.ErrForm}, {job + "when x\n", "when", api.ErrForm}, {job + "tries 1\n", "tries", api.ErrForm}, {job + "limit 1\n", "limit 1 1", api.ErrForm},
		{job + "axis x y\n", "axis x", api.ErrForm}, {job + "axis x y\n", "axis x \"\"", api.ErrForm}, {job + "tries 1\n", "tries 6", api.ErrArg}, {job + "limit 7\n", "limit 07", api.ErrArg},
		{job + "use t\n", "use t", api.ErrForm}, {job, "job j j", api.ErrForm}, {many(24, "job j%"), "job J", api.ErrName}, {many(24, "job j%"), "job j1 j2", api.ErrForm},
		{head, "include ../x", api.ErrForm}, {head, "var X 1", api.ErrName}, {head, "do x", api.ErrForm}, {head, "on", api.ErrForm},
		{full, "use t", api.ErrForm}, {full, "needs A", api.ErrName}, {full, "keep \"\"", api.ErrForm}, {full, "limit 0", api.ErrArg}, {full, "axis A x", api.ErrName},
		// What stands there already: ahead of what is full.
		{job + "manual\n" + many(39, "do x"), "manual", api.ErrTwice}, {job + many(39, "do x") + "axis n 1\n", "axis n 2", api.ErrTwice}, {many(24, "job j%"), "job j7", api.ErrTwice},
		{many(24, "template t%"), "template t23", api.ErrTwice}, {many(24, "template t%"), "template t24", api.ErrFull}, {job + "manual\n" + many(39, "do x"), "axis n 1", api.ErrFull},
	} {
		whole := c.ahead + c.line
		checkWrong(t, whole, 1+strings.Count(whole, "\n"), c.e)
	}
}

// The table of errors: the first line at which something is wrong, whatever is wrong behind it.
func TestFirstLine(t *testing.T) {
	wrong := []struct {
		line string
		e    api.Errno
	}{
		{"\"", api.ErrForm}, {strings.Repeat("x", 401), api.ErrTooLarge}, {"include x", api.ErrForm}, {"do", api.ErrForm}, {"needs A", api.ErrName}, {"keep \"\"", api.ErrForm}, {"tries x", api.ErrArg}, {"manual", api.ErrTwice}, {"job a", api.ErrTwice},
	}
	for _, first := range wrong {
		for _, second := range wrong {
			checkWrong(t, text("job a", "manual", first.line, second.line), 3, first.e)
			checkWrong(t, text("job a", "manual", "", "do x", first.line, "", "do x", second.line, ""), 5, first.e)
		}
	}
	checkWrong(t, "job a\njob a\njob A\n\"", 2, api.ErrTwice)
	checkWrong(t, many(41, "on x")+"\"", 41, api.ErrFull)
	checkWrong(t, many(25, "job j%")+"job A", 25, api.ErrFull)
}

// P12.1: what stands once at most, and what may stand as often as it likes.
func TestTwice(t *testing.T) {
	for _, section := range []string{"job a\n", "template a\n"} {
		for _, line := range []string{"when x", "tries 1", "limit 1", "manual", "axis os x"} {
			word := strings.Fields(line)[0]
			other := map[string]string{"when": "when y z", "tries": "tries 2", "limit": "limit 2", "manual": "manual", "axis": "axis os y z"}[word]
			checkWrong(t, section+line+"\n"+line, 3, api.ErrTwice)
			checkWrong(t, section+"do x\n"+line+"\nneeds b\n\n"+other, 6, api.ErrTwice)
			// In another section it stands once more.
			checkRight(t, section+line+"\njob b\n"+line+"\ntemplate b\n"+other+"\njob c\n"+line)
			checkWrong(t, section+line+"\njob b\n"+line+"\n"+line, 5, api.ErrTwice)
		}
		checkRight(t, section+"when x\ntries 1\nlimit 1\nmanual\naxis os x\naxis o x\naxis os-2 x")
		checkRight(t, section+"axis when x\naxis tries x\naxis manual x\nmanual\nwhen x\ntries 1\naxis axis axis")
		checkWrong(t, section+"axis when x\naxis manual x\nmanual\naxis when y", 5, api.ErrTwice)
		checkRight(t, section+strings.Repeat("do x\nneeds b\ntags b\nkeep b\nvar b b\n", 2))
	}
	checkRight(t, strings.Repeat("include a\non a\npaths a\nvar a a\n", 2))
	checkRight(t, "template a\njob a\ntemplate b\njob b")
	checkWrong(t, "template a\njob a\njob b\ntemplate a", 4, api.ErrTwice)
	checkWrong(t, "template a\njob a\ntemplate b\njob a\njob a", 4, api.ErrTwice)
	checkWrong(t, "job a\ndo x\njob b\ndo x\njob a", 5, api.ErrTwice)
}

// P12.1: as many as there may be, and one more.
func TestFull(t *testing.T) {
	checkRight(t, many(24, "job j%"))
	checkWrong(t, many(24, "job j%")+"job x", 25, api.ErrFull)
	checkRight(t, many(24, "template j%"))
	checkWrong(t, many(24, "template j%")+"template x", 25, api.ErrFull)
	checkRight(t, many(24, "template j%\njob j%"))
	checkWrong(t, many(24, "template j%\njob j%")+"\njob x", 50, api.ErrFull)
	checkWrong(t, many(24, "job j%")+many(24, "template j%")+"template x", 49, api.ErrFull)
	for _, line := range []string{"on x", "paths x", "include x", "var x x"} {
		checkRight(t, many(40, line)+many(3, "job j%"))
		checkWrong(t, many(40, line)+"var a b", 41, api.ErrFull)
		checkWrong(t, many(20, line+"\nvar a b")+line, 41, api.ErrFull)
	}
	for _, section := range []string{"job a\n", "template a\n"} {
		for _, line := range []string{"do x", "needs x", "tags x", "axis a% x", "var x x", "keep x"} {
			checkRight(t, section+many(40, line)+"job b\n"+many(40, line)+"template b\n"+many(40, line))
			checkWrong(t, section+many(40, line)+"do x", 42, api.ErrFull)
			checkWrong(t, section+"manual\ntries 1\n\n# no item\n"+many(38, line)+"limit 1", 44, api.ErrFull)
			checkWrong(t, many(40, "on x")+section+many(40, line)+"job b\n"+many(41, line), 123, api.ErrFull)
		}
	}
	// The greatest of all: 40 items in the head, and in each of 48 sections.
	checkRight(t, many(40, "on x")+many(24, "template t%\n"+many(40, "do x"))+many(24, "job t%\nuse t%\n"+many(39, "do x")))
}

// P12.1 with R1: it ends soon, however much it is handed.
func TestParseOfVeryMuch(t *testing.T) {
	checkRight(t, strings.Repeat("\n", 1<<18)+"job a")
	checkWrong(t, strings.Repeat("#\n", 1<<18)+"job A", 1<<18+1, api.ErrName)
	checkWrong(t, strings.Repeat("\x00", 1<<22), 1, api.ErrTooLarge)
	checkWrong(t, strings.Repeat("on x\n", 1<<18), 41, api.ErrFull)
}
