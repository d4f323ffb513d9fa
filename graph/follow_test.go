package graph_test

import (
	"cmp"
	"math/rand/v2"
	"slices"
	"testing"

	"bastion/api"
	"bastion/graph"
)

// wide are n things with up to so many needs each, of which each is of a thing ahead in an order that is drawn; with a back need each of these may be of any thing.
func wide(r *rand.Rand, n, most int, back float64) [][]int {
	needs := make([][]int, n)
	place := r.Perm(n)
	for i := range needs {
		for range r.IntN(most + 1) {
			if k := r.IntN(n); place[k] < place[i] || r.Float64() < back {
				needs[i] = append(needs[i], k)
			}
		}
	}
	return needs
}

// eachWide hands on needs that are drawn, small ones and great ones, with cycles and without.
func eachWide(do func(needs [][]int)) {
	r := rand.New(rand.NewPCG(15, 2))
	for range 500 {
		do(wide(r, r.IntN(60), 4, 0.05))
		do(wide(r, r.IntN(60), 30, 0))
	}
	for range 5 {
		do(wide(r, graph.MaxThings, 16, 0))
		do(wide(r, graph.MaxThings, 3, 0))
		do(wide(r, graph.MaxThings, 2, 0.001))
	}
}

// isRow tells whether each thing stands once in a list, behind all that it needs.
func isRow(needs [][]int, row []int) bool {
	place := make([]int, len(needs))
	for at, i := range row {
		if i < 0 || i >= len(needs) || place[i] > 0 {
			return false
		}
		place[i] = at + 1
	}
	for i, list := range needs {
		for _, k := range list {
			if place[k] >= place[i] {
				return false
			}
		}
	}
	return len(row) == len(needs)
}

// P15.3.
func TestARow(t *testing.T) {
	rows := 0
	eachWide(func(needs [][]int) {
		row, e := graph.Sort(needs)
		levels, levelsE := graph.Levels(needs)
		if e != levelsE {
			t.Errorf("of %v: Sort answers %d, Levels %d", told(needs), int(e), int(levelsE))
		}
		if e != api.OK {
			return
		}
		rows++
		if !isRow(needs, row) {
			t.Errorf("of %v: %v is no row", told(needs), told(row))
		}
		for i, list := range needs {
			for _, k := range list {
				if levels[i] <= levels[k] {
					t.Errorf("of %v: %d needs %d, and their levels are %d and %d", told(needs), i, k, levels[i], levels[k])
				}
			}
		}
		by := numbers(0, len(needs))
		slices.SortStableFunc(by, func(i, k int) int { return cmp.Compare(levels[i], levels[k]) })
		if !isRow(needs, by) {
			t.Errorf("of %v: by levels, %v, it is no row", told(needs), told(by))
		}
	})
	if rows < 100 {
		t.Errorf("only %d of the needs drawn have a row", rows)
	}
}

// P15.1: where a thing stands right ahead of a lesser one, that one was not ready yet, so it needs it.
func TestLeastFirst(t *testing.T) {
	eachWide(func(needs [][]int) {
		row, _ := graph.Sort(needs)
		for at := 1; at < len(row); at++ {
			if i, k := row[at-1], row[at]; i > k && !slices.Contains(needs[k], i) {
				t.Errorf("of %v: %d stands ahead of %d, which does not need it", told(needs), i, k)
			}
		}
	})
}

// P15.4.
func TestNoRow(t *testing.T) {
	cycles := 0
	eachWide(func(needs [][]int) {
		if len(needs) > 60 { // all things are asked
			return
		}
		on := false
		for i := range needs {
			below, _ := graph.Below(needs, i)
			above, _ := graph.Above(needs, i)
			if slices.Contains(below, i) != slices.Contains(above, i) {
				t.Errorf("of %v: %d rests on itself in one of the two alone", told(needs), i)
			}
			on = on || slices.Contains(below, i)
		}
		if _, e := graph.Sort(needs); on != (e == api.ErrCycle) {
			t.Errorf("of %v: %d, and that some thing rests on itself is %t", told(needs), int(e), on)
		}
		if on {
			cycles++
		}
	})
	if cycles < 50 {
		t.Errorf("only %d of the needs drawn have a cycle", cycles)
	}
}

// P15.5.
func TestBothWays(t *testing.T) {
	eachWide(func(needs [][]int) {
		if len(needs) > 60 { // all things are asked
			return
		}
		var on, under [][2]int
		for i := range needs {
			below, e := graph.Below(needs, i)
			above, aboveE := graph.Above(needs, i)
			if e != api.OK || aboveE != api.OK || !slices.IsSorted(below) || !slices.IsSorted(above) {
				t.Errorf("of %v and %d: %v, %d; %v, %d", told(needs), i, told(below), int(e), told(above), int(aboveE))
			}
			for _, k := range below {
				on = append(on, [2]int{i, k})
			}
			for _, k := range above {
				under = append(under, [2]int{k, i})
			}
		}
		slices.SortFunc(under, func(a, b [2]int) int { return slices.Compare(a[:], b[:]) })
		if !slices.Equal(on, under) {
			t.Errorf("of %v: %v rest on one another, the other way %v", told(needs), told(on), told(under))
		}
	})
}

// P15.5: some things of many.
func TestBothWaysOfMany(t *testing.T) {
	r := rand.New(rand.NewPCG(15, 3))
	for range 5 {
		needs := wide(r, graph.MaxThings, 3, 0.0005)
		for range 20 {
			i := r.IntN(len(needs))
			below, _ := graph.Below(needs, i)
			for range min(len(below), 5) {
				k := below[r.IntN(len(below))]
				if above, _ := graph.Above(needs, k); !slices.Contains(above, i) {
					t.Errorf("%d rests on %d, which does not bear it", i, k)
				}
			}
			above, _ := graph.Above(needs, i)
			for range min(len(above), 5) {
				k := above[r.IntN(len(above))]
				if below, _ := graph.Below(needs, k); !slices.Contains(below, i) {
					t.Errorf("%d bears %d, which does not rest on it", i, k)
				}
			}
		}
	}
}
