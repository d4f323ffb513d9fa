package graph_test

import (
	"math/rand/v2"
	"slices"
	"strconv"
	"strings"
	"testing"

	"bastion/api"
	"bastion/graph"
)

const (
	least    = -1 << 63
	greatest = 1<<63 - 1
	allNeeds = 65536 // so many there may be
)

// given are needs told by a text: each thing's with blanks between, a comma behind each thing but the last one.
func given(text string) [][]int {
	var needs [][]int
	for _, part := range strings.Split(text, ",") {
		var list []int
		for _, field := range strings.Fields(part) {
			k, err := strconv.Atoi(field)
			if err != nil {
				panic(err)
			}
			list = append(list, k)
		}
		needs = append(needs, list)
	}
	return needs
}

// copied are needs with lists of their own.
func copied(needs [][]int) [][]int {
	needs = slices.Clone(needs)
	for i := range needs {
		needs[i] = slices.Clone(needs[i])
	}
	return needs
}

func same(a, b [][]int) bool { return slices.EqualFunc(a, b, slices.Equal[[]int]) }

// told is the beginning of a list, for faults that a test tells.
func told[T any](list []T) []T { return list[:min(len(list), 24)] }

// What the chapter says, told a second time.

func mayBeTold(needs [][]int) bool {
	all := slices.Concat(needs...)
	return len(needs) <= graph.MaxThings && len(all) <= allNeeds && !slices.ContainsFunc(all, func(k int) bool { return k < 0 || k >= len(needs) })
}

// restsTold tells of each thing i and each k, at [i][k], whether i rests on k: by one thing more between them, again and again.
func restsTold(needs [][]int) [][]bool {
	rests := make([][]bool, len(needs))
	for i, list := range needs {
		rests[i] = make([]bool, len(needs))
		for _, k := range list {
			rests[i][k] = true
		}
	}
	for between := range needs {
		for i := range needs {
			for k := range needs {
				rests[i][k] = rests[i][k] || rests[i][between] && rests[between][k]
			}
		}
	}
	return rests
}

func cycleTold(needs [][]int) bool {
	for i, row := range restsTold(needs) {
		if row[i] {
			return true
		}
	}
	return false
}

// rowTold is the row: again and again all things are asked, by their numbers.
func rowTold(needs [][]int) []int {
	var row []int
	for range needs {
		for i, list := range needs {
			if !slices.Contains(row, i) && !slices.ContainsFunc(list, func(k int) bool { return !slices.Contains(row, k) }) {
				row = append(row, i)
				break
			}
		}
	}
	return row
}

func levelTold(needs [][]int, i int) int {
	level := 0
	for _, k := range needs[i] {
		level = max(level, 1+levelTold(needs, k))
	}
	return level
}

func levelsTold(needs [][]int) []int {
	var levels []int
	for i := range needs {
		levels = append(levels, levelTold(needs, i))
	}
	return levels
}

// wholeTold is what Sort and Levels answer.
func wholeTold(needs [][]int) (row, levels []int, e api.Errno) {
	switch {
	case !mayBeTold(needs):
		return nil, nil, api.ErrArg
	case cycleTold(needs):
		return nil, nil, api.ErrCycle
	}
	return rowTold(needs), levelsTold(needs), api.OK
}

// partTold is what Below and Above answer.
func partTold(needs [][]int, i int) (below, above []int, e api.Errno) {
	if !mayBeTold(needs) || i < 0 || i >= len(needs) {
		return nil, nil, api.ErrArg
	}
	rests := restsTold(needs)
	for k := range needs {
		if rests[i][k] {
			below = append(below, k)
		}
		if rests[k][i] {
			above = append(above, k)
		}
	}
	return below, above, api.OK
}

// call calls one of the four, and tells where it does not answer this, or changes what it is handed.
func call(t *testing.T, name string, f func([][]int) ([]int, api.Errno), needs [][]int, want []int, wantE api.Errno) {
	t.Helper()
	was := copied(needs)
	got, e := f(needs)
	if !slices.Equal(got, want) || e != wantE {
		t.Errorf("%s of %v: %v, %d; want %v, %d", name, told(was), told(got), int(e), told(want), int(wantE))
	}
	if !same(needs, was) {
		t.Errorf("%s changes what it is handed: %v, was %v", name, told(needs), told(was))
	}
}

func checkWhole(t *testing.T, needs [][]int, row, levels []int, e api.Errno) {
	t.Helper()
	call(t, "Sort", graph.Sort, needs, row, e)
	call(t, "Levels", graph.Levels, needs, levels, e)
}

func checkPart(t *testing.T, needs [][]int, i int, below, above []int, e api.Errno) {
	t.Helper()
	call(t, "Below("+strconv.Itoa(i)+")", func(needs [][]int) ([]int, api.Errno) { return graph.Below(needs, i) }, needs, below, e)
	call(t, "Above("+strconv.Itoa(i)+")", func(needs [][]int) ([]int, api.Errno) { return graph.Above(needs, i) }, needs, above, e)
}

// checkAll tells where any of the four is not as the second telling has it, for whatever thing.
func checkAll(t *testing.T, needs [][]int) api.Errno {
	t.Helper()
	row, levels, e := wholeTold(needs)
	checkWhole(t, needs, row, levels, e)
	for i := -1; i <= len(needs); i++ {
		below, above, e := partTold(needs, i)
		checkPart(t, needs, i, below, above, e)
	}
	return e
}

// drawn are needs of up to n things with up to n needs each: in one draw of two they can be put in a row, in one of many a number is no thing's.
func drawn(r *rand.Rand, n int) [][]int {
	needs := make([][]int, r.IntN(n+1))
	place := r.Perm(len(needs))
	inRow := r.IntN(2) == 0
	for i := range needs {
		for range r.IntN(n + 1) {
			k := r.IntN(len(needs))
			if !inRow || place[k] < place[i] {
				needs[i] = append(needs[i], k)
			}
			if r.IntN(6*n*n) == 0 {
				needs[i] = append(needs[i], []int{-1, len(needs), least, greatest}[r.IntN(4)])
			}
		}
	}
	return needs
}

// chain are n things, each of which needs the next one.
func chain(n int) [][]int {
	needs := make([][]int, n)
	for i := range n - 1 {
		needs[i] = []int{i + 1}
	}
	return needs
}

// ring are n things, each of which needs the next one, and the last one the first.
func ring(n int) [][]int {
	needs := chain(n)
	needs[n-1] = []int{0}
	return needs
}

// turned are needs with each thing in the place that is as far from the other end.
func turned(needs [][]int) [][]int {
	last := len(needs) - 1
	other := make([][]int, len(needs))
	for i, list := range needs {
		for _, k := range list {
			other[last-i] = append(other[last-i], last-k)
		}
	}
	return other
}

// numbers are the numbers from one on, ahead of the other one.
func numbers(from, to int) []int {
	var l []int
	for i := from; i < to; i++ {
		l = append(l, i)
	}
	return l
}

func backward(list []int) []int {
	list = slices.Clone(list)
	slices.Reverse(list)
	return list
}
