package matrix_test

import (
	"slices"
	"strings"
	"testing"

	"bastion/api"
	"bastion/matrix"
)

// write writes all over a list, with its spare room.
func write(l []string) {
	l = l[:cap(l)]
	for i := range l {
		l[i] = "written"
	}
}

// R3: what is handed out is new memory, and no two rows share any, their spare room neither.
func TestRowsHandedOut(t *testing.T) {
	for _, l := range [][]matrix.Axis{nil, axes("a x"), axes("a x y z"), axes("os x y", "n 1 2 3"), axes("a 1 2", "b 3 4", "c 5 6", "d 7 8 9"), counted(1, 1, 1, 1, 1, 1, 1, 24)} {
		want, _ := rowsTold(l)
		for i := range want {
			rows, _ := matrix.Rows(l)
			write(rows[i])
			for k, row := range rows {
				if k != i && !slices.Equal(row, want[k]) {
					t.Errorf("the row %d shows what was written to the row %d: %q", k, i, row)
				}
			}
		}
		rows, _ := matrix.Rows(l)
		inner := slices.Clone(rows)
		rows = rows[:cap(rows)]
		for i := range rows {
			rows[i] = []string{"written"}
		}
		if !sameRows(inner, want) {
			t.Errorf("rows show what was written to their list: %q", inner)
		}
		checkRows(t, l)
	}
}

// R3: what was handed in shows nothing of what is written to an answer.
func TestGivenApart(t *testing.T) {
	l := axes("a x", "b y", "c z")
	given := copied(l)
	rows, _ := matrix.Rows(l)
	row := slices.Clone(rows[0])
	write(rows[0])
	if !sameAxes(l, given) {
		t.Errorf("the axes show what was written to a row: %q", l)
	}
	vars := matrix.Vars(l, row)
	vars = vars[:cap(vars)]
	for i := range vars {
		vars[i] = api.Var{Name: "written", Value: "written"}
	}
	if !sameAxes(l, given) || !slices.Equal(row, []string{"x", "y", "z"}) {
		t.Errorf("axes and row show what was written to variables: %q, %q", l, row)
	}
	checkVars(t, l, row, variables("a", "x", "b", "y", "c", "z")...)
	_, values, _ := matrix.Parse("a:b,c")
	write(values)
	if _, again, _ := matrix.Parse("a:b,c"); !slices.Equal(again, []string{"b", "c"}) {
		t.Errorf("a later answer shows what was written: %q", again)
	}
}

// R3: answers show nothing of what is written afterwards to what was handed in.
func TestNotKept(t *testing.T) {
	l := axes("os x y", "n 1 2 3")
	rows, _ := matrix.Rows(l)
	row := []string{"x", "1"}
	vars := matrix.Vars(l, row)
	for i := range l {
		l[i].Name = "written"
		write(l[i].Values)
	}
	write(row)
	if want, _ := rowsTold(axes("os x y", "n 1 2 3")); !sameRows(rows, want) {
		t.Errorf("rows show what was written to the axes: %q", rows)
	}
	if !slices.Equal(vars, variables("os", "x", "n", "1")) {
		t.Errorf("variables show what was written to axes and row: %q", vars)
	}
}

// R3: the room behind the end of what is handed in is not read, and not written to.
func TestRoomBehind(t *testing.T) {
	all := axes("a 1 2 3 4", "b 5 6", "a 7")
	all[0].Values = all[0].Values[:2]
	checkRowsAre(t, all[:1], "1", "2")
	checkRowsAre(t, all[:2], "1 5", "1 6", "2 5", "2 6")
	checkRowsFail(t, all, api.ErrTwice)
	if room := all[0].Values[:4]; strings.Join(room, " ") != "1 2 3 4" {
		t.Errorf("the room behind the values: %q", room)
	}
	row := strings.Fields("1 5 7")
	checkVars(t, all, row[:1], variables("a", "1")...)
	checkVars(t, all[:1], row, variables("a", "1")...)
	checkLabelIs(t, "a:1,5", "a", row[:2]...)
	if !slices.Equal(row, []string{"1", "5", "7"}) || all[2].Name != "a" || all[2].Values[0] != "7" {
		t.Errorf("what was handed in is changed: %q, %q", row, all)
	}
}

// R2: an answer hangs on what is asked alone, whatever was asked ahead.
func TestAgain(t *testing.T) {
	for range 3 {
		checkRowsAre(t, axes("os x y", "n 1"), "x 1", "y 1")
		checkRowsFail(t, axes("os x", "os y"), api.ErrTwice)
		checkRowsFail(t, axes("os x", "n"), api.ErrArg)
		checkRowsFail(t, counted(25), api.ErrFull)
		checkRowsAre(t, axes("os z"), "z")
		checkVars(t, axes("os z"), []string{"x"}, variables("os", "x")...)
		checkLabelIs(t, `a\:b:c\,d,e\\`, "a:b", "c,d", `e\`)
		checkParseFails(t, `a:b,c\`)
		checkParseFails(t, `a\b`)
		checkLabelIs(t, "a", "a")
	}
}
