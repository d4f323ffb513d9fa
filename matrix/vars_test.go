package matrix_test

import (
	"math/rand/v2"
	"strings"
	"testing"

	"bastion/api"
	"bastion/matrix"
)

// variables are variables of these names and values, in turn.
func variables(texts ...string) []api.Var {
	var l []api.Var
	for i := 0; i < len(texts); i += 2 {
		l = append(l, api.Var{Name: texts[i], Value: texts[i+1]})
	}
	return l
}

// P14.1, example 1.
func TestVars(t *testing.T) {
	l := axes("os x y", "n 1 2 3")
	checkVars(t, l, []string{"x", "1"}, variables("os", "x", "n", "1")...)
	checkVars(t, l, []string{"y", "3"}, variables("os", "y", "n", "3")...)
	rows, _ := matrix.Rows(l)
	for _, row := range rows {
		checkVars(t, l, row, variables("os", row[0], "n", row[1])...)
	}
	checkVars(t, axes("os x"), []string{"x"}, variables("os", "x")...)
}

// P14.1: as far as the row goes, and for each axis.
func TestVarsOfOtherLengths(t *testing.T) {
	l := axes("a x", "b y", "c z")
	checkVars(t, l, nil)
	checkVars(t, l, []string{})
	checkVars(t, l, []string{"x"}, variables("a", "x")...)
	checkVars(t, l, strings.Fields("x y"), variables("a", "x", "b", "y")...)
	checkVars(t, l, strings.Fields("x y z"), variables("a", "x", "b", "y", "c", "z")...)
	checkVars(t, l, strings.Fields("x y z more"), variables("a", "x", "b", "y", "c", "z")...)
	checkVars(t, l[:1], strings.Fields("x y z"), variables("a", "x")...)
	checkVars(t, nil, strings.Fields("x y z"))
	checkVars(t, nil, nil)
	checkVars(t, []matrix.Axis{}, []string{})
}

// P14.1: the row's values need not be among the axes', and the axes need not be ones that may be.
func TestVarsOfAny(t *testing.T) {
	checkVars(t, axes("a x", "b y"), []string{"y", "-"}, variables("a", "y", "b", "-")...)
	checkVars(t, axes("a", "a", "-"), []string{"1", "2", ""}, variables("a", "1", "a", "2", "", "")...)
	checkVars(t, []matrix.Axis{{}, {Name: "\xff\n:,\\"}}, []string{"", "\x00$ :,\\"}, variables("", "", "\xff\n:,\\", "\x00$ :,\\")...)
	checkVars(t, counted(1<<10), []string{"x"}, variables("0", "x")...)
}

// P14.1: of axes and rows drawn at random.
func TestVarsDrawn(t *testing.T) {
	r := rand.New(rand.NewPCG(14, 2))
	for range 5000 {
		l, row := drawnAxes(r, 5), drawnList(r, 6, 3)
		var want []api.Var
		for i, axis := range l {
			if i < len(row) {
				want = append(want, api.Var{Name: axis.Name, Value: row[i]})
			}
		}
		checkVars(t, l, row, want...)
	}
}
