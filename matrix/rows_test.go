package matrix_test

import (
	"math/rand/v2"
	"slices"
	"strconv"
	"strings"
	"testing"

	"bastion/api"
	"bastion/matrix"
)

// checkRowsAre tells where the rows of axes are not these, each told by its values with blanks between; a - is an empty text.
func checkRowsAre(t *testing.T, l []matrix.Axis, want ...string) {
	t.Helper()
	var told []string
	rows, e := checkRows(t, l)
	for _, row := range rows {
		row = slices.Clone(row)
		for i, value := range row {
			if value == "" {
				row[i] = "-"
			}
		}
		told = append(told, strings.Join(row, " "))
	}
	if e != api.OK || !slices.Equal(told, want) {
		t.Errorf("Rows(%q): %q, %d; want %q", l, told, int(e), want)
	}
}

// P14.1, example 1.
func TestRows(t *testing.T) {
	checkRowsAre(t, axes("os x y", "n 1 2 3"), "x 1", "x 2", "x 3", "y 1", "y 2", "y 3")
	checkRowsAre(t, axes("n 1 2 3", "os x y"), "1 x", "1 y", "2 x", "2 y", "3 x", "3 y")
	checkRowsAre(t, axes("os x"), "x")
	checkRowsAre(t, axes("os z x y"), "z", "x", "y")
	checkRowsAre(t, axes("a x", "b y", "c z"), "x y z")
	checkRowsAre(t, axes("a 1 2", "b x", "c 3 4"), "1 x 3", "1 x 4", "2 x 3", "2 x 4")
	checkRowsAre(t, axes("a 1 2", "b 3 4", "c 5 6"), "1 3 5", "1 3 6", "1 4 5", "1 4 6", "2 3 5", "2 3 6", "2 4 5", "2 4 6")
}

// P14.1: of no axes there is one row, of no values.
func TestRowsOfNone(t *testing.T) {
	for _, l := range [][]matrix.Axis{nil, {}, axes("a x")[:0]} {
		rows, e := checkRows(t, l)
		if e != api.OK || len(rows) != 1 || len(rows[0]) != 0 {
			t.Errorf("of no axes: %q, %d", rows, int(e))
		}
	}
}

// P14.1: as often as a value stands in an axis, so often it is taken.
func TestRowsAgain(t *testing.T) {
	checkRowsAre(t, axes("a x x"), "x", "x")
	checkRowsAre(t, axes("a x y x", "b 1 1"), "x 1", "x 1", "y 1", "y 1", "x 1", "x 1")
	checkRowsAre(t, axes("a x y", "b x y"), "x x", "x y", "y x", "y y")
}

// P14.1: names and values are any texts, empty ones too.
func TestRowsAnyTexts(t *testing.T) {
	checkRowsAre(t, axes("- - x -"), "-", "x", "-")
	checkRowsAre(t, axes("- x", "a - y"), "x -", "x y")
	for _, texts := range [][2]string{{"a", "A"}, {"a", "a "}, {"", " "}, {"", "\x00"}, {"\xff", "\xfe"}, {"\xff", "\ufffd"}, {"a,b", "a:b"}, {strings.Repeat("a", 500), strings.Repeat("a", 501)}} {
		rows, e := checkRows(t, []matrix.Axis{{Name: texts[0], Values: texts[:]}, {Name: texts[1], Values: texts[:1]}})
		if e != api.OK || len(rows) != 2 || rows[0][0] != texts[0] || rows[1][0] != texts[1] || rows[1][1] != texts[0] {
			t.Errorf("of %q: %q, %d", texts, rows, int(e))
		}
	}
}

// checkRowsFail tells where Rows does not answer this error, with nothing.
func checkRowsFail(t *testing.T, l []matrix.Axis, want api.Errno) {
	t.Helper()
	if rows, e := checkRows(t, l); e != want || len(rows) > 0 {
		t.Errorf("Rows(%.300q): %.300q, %d; want %d", l, rows, int(e), int(want))
	}
}

// The table of errors, example 2.
func TestRowsErrors(t *testing.T) {
	checkRowsFail(t, axes("os x", "os y"), api.ErrTwice)
	checkRowsFail(t, axes("os x", "os x"), api.ErrTwice)
	checkRowsFail(t, axes("os x", "n 1", "os y"), api.ErrTwice)
	checkRowsFail(t, axes("n 1", "os x", "os y"), api.ErrTwice)
	checkRowsFail(t, axes("- x", "a 1", "- x"), api.ErrTwice)
	checkRowsFail(t, axes("os"), api.ErrArg)
	checkRowsFail(t, axes("-"), api.ErrArg)
	checkRowsFail(t, axes("os", "n 1"), api.ErrArg)
	checkRowsFail(t, axes("n 1", "os"), api.ErrArg)
	checkRowsFail(t, axes("n 1 2 3 4 5", "os v w x y z"), api.ErrFull)
	checkRowsFail(t, []matrix.Axis{{}}, api.ErrArg)
	checkRowsFail(t, []matrix.Axis{{Values: []string{}}}, api.ErrArg)
}

// The table of errors: axis by axis, its name ahead of its values; and that there are too many rows behind all of that.
func TestRowsFirstFault(t *testing.T) {
	// Of one axis: twice, and without values.
	checkRowsFail(t, axes("os x", "os"), api.ErrTwice)
	checkRowsFail(t, axes("os x", "n 1", "os"), api.ErrTwice)
	// The first axis that is wrong.
	checkRowsFail(t, axes("os", "os"), api.ErrArg)
	checkRowsFail(t, axes("os", "os x"), api.ErrArg)
	checkRowsFail(t, axes("os x", "n", "os y"), api.ErrArg)
	checkRowsFail(t, axes("os x", "os y", "n"), api.ErrTwice)
	checkRowsFail(t, axes("a", "os x", "os y"), api.ErrArg)
	// Too many rows, and something else at whatever axis.
	many := "many" + strings.Repeat(" x", 25)
	checkRowsFail(t, axes(many, "os"), api.ErrArg)
	checkRowsFail(t, axes("os", many), api.ErrArg)
	checkRowsFail(t, axes(many, "os x", "os y"), api.ErrTwice)
	checkRowsFail(t, axes(many, many), api.ErrTwice)
	checkRowsFail(t, axes(many, "a 1", "b 1", "c"), api.ErrArg)
	checkRowsFail(t, axes(many, "a 1", "b 1", "a"), api.ErrTwice)
	checkRowsFail(t, axes("n 1 2 3 4 5", "os v w x y z", "last"), api.ErrArg)
	checkRowsFail(t, axes("n 1 2 3 4 5", "os v w x y z", "os x"), api.ErrTwice)
}

// counted are axes with as many values as these numbers say.
func counted(counts ...int) []matrix.Axis {
	var l []matrix.Axis
	for i, n := range counts {
		axis := matrix.Axis{Name: strconv.Itoa(i)}
		for k := range n {
			axis.Values = append(axis.Values, strconv.Itoa(k))
		}
		l = append(l, axis)
	}
	return l
}

// The table of errors: MaxJobs rows, and one more.
func TestRowsFull(t *testing.T) {
	for _, counts := range [][]int{{24}, {1, 24}, {24, 1}, {2, 12}, {12, 2}, {3, 8}, {4, 6}, {6, 4}, {2, 2, 6}, {2, 3, 4}, {2, 2, 2, 3}, {23}, {2, 11}, {5, 4}, {2, 2, 2, 2}, {1, 1, 24, 1, 1}} {
		if rows, e := checkRows(t, counted(counts...)); e != api.OK || len(rows) > api.MaxJobs {
			t.Errorf("of %v values: %d rows, %d", counts, len(rows), int(e))
		}
	}
	for _, counts := range [][]int{{25}, {1, 25}, {25, 1}, {5, 5}, {2, 13}, {13, 2}, {3, 9}, {9, 3}, {24, 2}, {2, 24}, {7, 4}, {2, 2, 7}, {2, 3, 5}, {3, 3, 3}, {2, 2, 2, 2, 2}, {1, 1, 25, 1, 1}, {24, 1, 24}, {1000}, {24, 24, 24}} {
		checkRowsFail(t, counted(counts...), api.ErrFull)
	}
}

// R1: there may be more rows than any number tells.
func TestRowsPastNumbers(t *testing.T) {
	for _, most := range []int{31, 32, 33, 62, 63, 64, 65, 128, 1000} {
		checkRowsFail(t, counted(slices.Repeat([]int{2}, most)...), api.ErrFull)
		checkRowsFail(t, counted(slices.Repeat([]int{1, 2}, most)...), api.ErrFull)
		checkRowsFail(t, counted(slices.Repeat([]int{4}, most)...), api.ErrFull)
		checkRowsFail(t, counted(slices.Repeat([]int{24}, most)...), api.ErrFull)
	}
	for n := 1; n <= 4; n++ {
		checkRowsFail(t, counted(slices.Repeat([]int{1 << 16}, n)...), api.ErrFull)
		checkRowsFail(t, counted(append(slices.Repeat([]int{1 << 16}, n), 0)...), api.ErrArg)
	}
}

// P14.1 with R1: many axes end soon, at whatever place the one stands that has several values.
func TestRowsLong(t *testing.T) {
	const many = 1 << 15
	for _, at := range []int{0, many / 2, many - 1} {
		counts := slices.Repeat([]int{1}, many)
		counts[at] = 24
		rows, e := matrix.Rows(counted(counts...))
		if e != api.OK || len(rows) != 24 {
			t.Fatalf("of %d axes: %d rows, %d", many, len(rows), int(e))
		}
		for i, row := range rows {
			want := slices.Repeat([]string{"0"}, many)
			want[at] = strconv.Itoa(i)
			if !slices.Equal(row, want) {
				t.Errorf("the row %d of %d axes is another one", i, many)
			}
		}
	}
	twice := append(counted(slices.Repeat([]int{1}, many)...), axes("0 x")...)
	if rows, e := matrix.Rows(twice); len(rows) > 0 || e != api.ErrTwice {
		t.Errorf("of %d axes: %d rows, %d", len(twice), len(rows), int(e))
	}
}

// P14.1: all axes of up to five, each of up to four values.
func TestRowsAllShort(t *testing.T) {
	var grow func(counts []int)
	grow = func(counts []int) {
		checkRows(t, counted(counts...))
		if len(counts) == 5 {
			return
		}
		for n := range 5 {
			grow(append(slices.Clone(counts), n))
		}
	}
	grow(nil)
}

// P14.1: axes drawn at random, of which some may not be.
func TestRowsDrawn(t *testing.T) {
	r := rand.New(rand.NewPCG(14, 1))
	seen := map[api.Errno]int{}
	for range 20000 {
		_, e := checkRows(t, drawnAxes(r, 5))
		seen[e]++
	}
	for _, e := range []api.Errno{api.OK, api.ErrTwice, api.ErrArg, api.ErrFull} {
		if seen[e] < 500 {
			t.Errorf("only %d of the axes drawn are answered with %d", seen[e], int(e))
		}
	}
}
