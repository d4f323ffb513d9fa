package matrix_test

import (
	"math/rand/v2"
	"slices"
	"strings"
	"testing"

	"bastion/api"
	"bastion/matrix"
)

// axes are axes told by lines: a name, and behind a blank the values with blanks between; a - is an empty text.
func axes(lines ...string) []matrix.Axis {
	var l []matrix.Axis
	for _, line := range lines {
		fields := strings.Fields(line)
		for i, field := range fields {
			if field == "-" {
				fields[i] = ""
			}
		}
		l = append(l, matrix.Axis{Name: fields[0], Values: fields[1:]})
	}
	return l
}

// copied are axes with lists of their own.
func copied(l []matrix.Axis) []matrix.Axis {
	l = slices.Clone(l)
	for i := range l {
		l[i].Values = slices.Clone(l[i].Values)
	}
	return l
}

func sameAxes(a, b []matrix.Axis) bool {
	return slices.EqualFunc(a, b, func(x, y matrix.Axis) bool { return x.Name == y.Name && slices.Equal(x.Values, y.Values) })
}

func sameRows(a, b [][]string) bool {
	return slices.EqualFunc(a, b, slices.Equal[[]string])
}

// What the chapter says of rows, told a second time: each axis makes of each row that there was one for each of its values.
func rowsTold(l []matrix.Axis) ([][]string, api.Errno) {
	for i, axis := range l {
		if slices.ContainsFunc(l[:i], func(ahead matrix.Axis) bool { return ahead.Name == axis.Name }) {
			return nil, api.ErrTwice
		}
		if len(axis.Values) == 0 {
			return nil, api.ErrArg
		}
	}
	all := [][]string{nil}
	for _, axis := range l {
		var longer [][]string
		for _, row := range all {
			for _, value := range axis.Values {
				longer = append(longer, append(slices.Clone(row), value))
			}
		}
		all = longer
		if len(all) > api.MaxJobs {
			return nil, api.ErrFull
		}
	}
	return all, api.OK
}

// What the chapter says of labels, told a second time: by what stands for what.
var (
	nameForms  = strings.NewReplacer(`\`, `\\`, `:`, `\:`)
	valueForms = strings.NewReplacer(`\`, `\\`, `,`, `\,`)
)

func labelTold(name string, row []string) string {
	label := nameForms.Replace(name)
	for i, value := range row {
		label += ":,"[min(i, 1):min(i, 1)+1] + valueForms.Replace(value)
	}
	return label
}

// The marks stand for what is behind a \, where no byte of a label can: they are no bytes.
const (
	quoteMark = "\u0100"
	colonMark = "\u0101"
	commaMark = "\u0102"
)

var (
	marked   = strings.NewReplacer(`\\`, quoteMark, `\:`, colonMark, `\,`, commaMark)
	unmarked = strings.NewReplacer(quoteMark, `\`, colonMark, `:`, commaMark, `,`)
)

func parseTold(label string) (string, []string, api.Errno) {
	name, values, is := strings.Cut(marked.Replace(wide(label)), ":")
	if strings.ContainsAny(name, `\`+commaMark) || strings.ContainsAny(values, `\`+colonMark) {
		return "", nil, api.ErrForm
	}
	if !is {
		return narrow(unmarked.Replace(name)), nil, api.OK
	}
	row := strings.Split(values, ",")
	for i, value := range row {
		row[i] = narrow(unmarked.Replace(value))
	}
	return narrow(unmarked.Replace(name)), row, api.OK
}

// wide is a text with a rune for each byte.
func wide(s string) string {
	var to strings.Builder
	for _, c := range []byte(s) {
		to.WriteRune(rune(c))
	}
	return to.String()
}

// narrow is the text of which another one is the wide one.
func narrow(s string) string {
	var to strings.Builder
	for _, c := range s {
		to.WriteByte(byte(c))
	}
	return to.String()
}

// checkRows tells where Rows is not as the second telling has it, or changes what it is handed.
func checkRows(t *testing.T, l []matrix.Axis) ([][]string, api.Errno) {
	t.Helper()
	given := copied(l)
	want, wantE := rowsTold(given)
	got, e := matrix.Rows(l)
	if !sameRows(got, want) || e != wantE {
		t.Errorf("Rows(%.300q): %.300q, %d; want %.300q, %d", given, got, int(e), want, int(wantE))
	}
	if !sameAxes(l, given) {
		t.Errorf("Rows changes what it is handed: %.300q, was %.300q", l, given)
	}
	return got, e
}

// checkLabel tells where Label is not as the second telling has it, or changes what it is handed.
func checkLabel(t *testing.T, name string, row []string) string {
	t.Helper()
	given := slices.Clone(row)
	want := labelTold(name, given)
	got := matrix.Label(name, row)
	if got != want {
		t.Errorf("Label(%.70q, %.300q): %.300q; want %.300q", name, given, got, want)
	}
	if !slices.Equal(row, given) {
		t.Errorf("Label changes what it is handed: %.300q, was %.300q", row, given)
	}
	return got
}

// checkParse tells where Parse is not as the second telling has it.
func checkParse(t *testing.T, label string) (string, []string, api.Errno) {
	t.Helper()
	wantName, wantRow, wantE := parseTold(label)
	name, row, e := matrix.Parse(label)
	if name != wantName || !slices.Equal(row, wantRow) || e != wantE {
		t.Errorf("Parse(%.300q): %.70q, %.300q, %d; want %.70q, %.300q, %d", label, name, row, int(e), wantName, wantRow, int(wantE))
	}
	return name, row, e
}

// checkVars tells where Vars is not as it must be, or changes what it is handed.
func checkVars(t *testing.T, l []matrix.Axis, row []string, want ...api.Var) {
	t.Helper()
	axesGiven, rowGiven := copied(l), slices.Clone(row)
	if got := matrix.Vars(l, row); !slices.Equal(got, want) {
		t.Errorf("Vars(%.300q, %.300q): %.300q; want %.300q", l, row, got, want)
	}
	if !sameAxes(l, axesGiven) || !slices.Equal(row, rowGiven) {
		t.Errorf("Vars changes what it is handed: %.300q, %.300q", l, row)
	}
}

// short are all texts of at most n of these marks.
func short(marks []string, n int) []string {
	all := []string{""}
	longest := all
	for range n {
		var more []string
		for _, s := range longest {
			for _, mark := range marks {
				more = append(more, s+mark)
			}
		}
		all = append(all, more...)
		longest = more
	}
	return all
}

// labelMarks are of what names, values and labels are drawn.
var labelMarks = []string{"a", "b", `\`, ":", ",", `\\`, `\:`, `\,`, "::", ",,", " ", "\n", "\x00", "\xff", "\u00e4", "\u0100", "-", "$"}

// drawn is a text of up to n marks.
func drawn(r *rand.Rand, n int) string {
	var s strings.Builder
	for range r.IntN(n + 1) {
		s.WriteString(labelMarks[r.IntN(len(labelMarks))])
	}
	return s.String()
}

// drawnList are up to n such texts.
func drawnList(r *rand.Rand, n, size int) []string {
	var l []string
	for range r.IntN(n + 1) {
		l = append(l, drawn(r, size))
	}
	return l
}

// drawnAxes are up to n axes: now and then one has no values, or the name of another one.
func drawnAxes(r *rand.Rand, n int) []matrix.Axis {
	var l []matrix.Axis
	for range r.IntN(n + 1) {
		l = append(l, matrix.Axis{Name: drawn(r, 4), Values: drawnList(r, 4, 2)})
		if last := &l[len(l)-1]; len(last.Values) == 0 && r.IntN(3) > 0 {
			last.Values = []string{"one"}
		}
	}
	return l
}
