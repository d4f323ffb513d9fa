package matrix_test

import (
	"math/rand/v2"
	"slices"
	"strings"
	"testing"

	"bastion/api"
	"bastion/matrix"
)

// checkCounted tells where there are not as many rows as the counts of values come to, or where rows or labels are alike that must not be.
func checkCounted(t *testing.T, l []matrix.Axis) {
	t.Helper()
	rows, e := matrix.Rows(l)
	if e != api.OK {
		return
	}
	count, apart := 1, true
	for _, axis := range l {
		count *= len(axis.Values)
		once := slices.Compact(slices.Sorted(slices.Values(axis.Values)))
		apart = apart && len(once) == len(axis.Values)
	}
	if len(rows) != count {
		t.Errorf("of %q: %d rows; want %d", l, len(rows), count)
	}
	if !apart {
		return
	}
	for i, row := range rows {
		for _, other := range rows[:i] {
			if slices.Equal(row, other) {
				t.Errorf("of %q: twice the row %q", l, row)
			}
			if matrix.Label("a", row) == matrix.Label("a", other) {
				t.Errorf("of %q: the rows %q and %q have one label", l, row, other)
			}
		}
	}
}

// P14.3.
func TestCounted(t *testing.T) {
	checkCounted(t, nil)
	checkCounted(t, axes("os x y", "n 1 2 3"))
	checkCounted(t, axes("os x y x", "n 1 1"))
	// Values that would have one label, if nothing had a \ ahead.
	checkCounted(t, []matrix.Axis{{Name: "a", Values: []string{"", ",", `\`, `\,`, `,\`}}, {Name: "b", Values: []string{"", ",", `\`, `\,`}}})
	checkCounted(t, []matrix.Axis{{Name: "a", Values: []string{"x,y", "x", "x\\"}}, {Name: "b", Values: []string{"z", "y,z", ",z", ",y,z"}}})
	texts := short([]string{",", `\`, ":"}, 2)
	for _, one := range texts {
		for _, other := range texts {
			for _, third := range texts {
				checkCounted(t, []matrix.Axis{{Name: "a", Values: []string{one, other}}, {Name: "b", Values: []string{third, "", one}}, {Name: "c", Values: []string{"", other}}})
			}
		}
	}
	r := rand.New(rand.NewPCG(14, 5))
	for range 10000 {
		checkCounted(t, drawnAxes(r, 4))
	}
}

// checkBack tells where Parse of Label is not the name and the values.
func checkBack(t *testing.T, name string, row []string) {
	t.Helper()
	gotName, gotRow, e := matrix.Parse(matrix.Label(name, row))
	if gotName != name || !slices.Equal(gotRow, row) || e != api.OK {
		t.Errorf("Parse of Label(%q, %q): %q, %q, %d", name, row, gotName, gotRow, int(e))
	}
}

// P14.4: Parse of Label, whatever bytes the name and the values have.
func TestBack(t *testing.T) {
	checkBack(t, "", nil)
	texts := short([]string{"a", `\`, ":", ","}, 3)
	for _, name := range texts {
		checkBack(t, name, nil)
		for _, one := range texts {
			checkBack(t, name, []string{one})
			checkBack(t, "a", []string{name, one})
			checkBack(t, one, []string{"", name, ""})
		}
	}
	var each strings.Builder
	for c := range 256 {
		each.WriteByte(byte(c))
		one := string([]byte{byte(c)})
		checkBack(t, one, []string{one, one + one, ""})
	}
	checkBack(t, each.String(), []string{each.String(), each.String()})
	r := rand.New(rand.NewPCG(14, 6))
	for range 20000 {
		checkBack(t, drawn(r, 8), drawnList(r, 8, 6))
	}
}

// P14.4: Label of Parse is the label, where it is one.
func TestLabelBack(t *testing.T) {
	check := func(label string) {
		name, row, e := matrix.Parse(label)
		if e != api.OK {
			return
		}
		if got := matrix.Label(name, row); got != label {
			t.Errorf("Label of Parse(%q): %q", label, got)
		}
	}
	for _, label := range short([]string{"a", `\`, ":", ","}, 8) {
		check(label)
	}
	r := rand.New(rand.NewPCG(14, 7))
	for range 50000 {
		check(drawn(r, 12))
	}
}
