package graph_test

import (
	"slices"
	"testing"

	"bastion/api"
	"bastion/graph"
)

// checkCycle tells where needs with a cycle are put in a row, or get levels.
func checkCycle(t *testing.T, needs [][]int) {
	t.Helper()
	checkWhole(t, needs, nil, nil, api.ErrCycle)
}

// checkNone tells where any of the four takes needs that may not be, whatever thing is asked for.
func checkNone(t *testing.T, needs [][]int) {
	t.Helper()
	checkWhole(t, needs, nil, nil, api.ErrArg)
	for _, i := range []int{0, 1, len(needs) - 1, len(needs), -1} {
		checkPart(t, needs, i, nil, nil, api.ErrArg)
	}
}

// The table of errors: a cycle, the example's and others.
func TestCycle(t *testing.T) {
	for _, text := range []string{"2, 3, 1, 0 2", "0", "1, 0", ", 1", "0, ", ", 1, 0", "1, 2, 0", "2, 0, 1", ", 0 1, ", ", 2 0, 1 0", "1 3, 2, 0, ", ", 0, 1, 2 3", "1, 0, 3, 2", ", 0, 0 0 2", ", 4, 1, 2, 3"} {
		checkCycle(t, given(text))
		checkAll(t, given(text))
	}
	for _, n := range []int{1, 2, 3, 100, graph.MaxThings} {
		checkCycle(t, ring(n))
		checkCycle(t, turned(ring(n)))
	}
	// One thing of all needs itself.
	for _, i := range []int{0, 1, 2000, graph.MaxThings - 1} {
		needs := make([][]int, graph.MaxThings)
		needs[i] = []int{i}
		checkCycle(t, needs)
	}
}

// The table of errors: numbers that are no thing's, the example's and others.
func TestNoThing(t *testing.T) {
	for _, text := range []string{"1", "-1", "2, ", "0 1", ", , 3", ", -1, ", "1, 2", "2, 0", ", 0 0 0 2", "1, , 9223372036854775807", "1, , -9223372036854775808", "4294967296, ", "-4294967296, ", ", 0, 1 0 -1 0"} {
		checkNone(t, given(text))
		checkAll(t, given(text))
	}
	// A number that is wrong, at whatever thing and place.
	for _, wrong := range []int{-1, 3, least, greatest, graph.MaxThings} {
		for i := range 3 {
			for at := range 4 {
				needs := given(", 0 0 0, 0 1 0")
				needs[i] = slices.Insert(needs[i], min(at, len(needs[i])), wrong)
				checkNone(t, needs)
			}
		}
	}
	for _, n := range []int{graph.MaxThings - 1, graph.MaxThings} {
		needs := make([][]int, n)
		needs[n-1] = []int{n - 2}
		checkPart(t, needs, n-1, []int{n - 2}, nil, api.OK)
		needs[0] = []int{n}
		checkNone(t, needs)
	}
}

// The table of errors: that they may not be is told ahead of a cycle.
func TestFirstFault(t *testing.T) {
	checkNone(t, given("0, 2"))
	checkNone(t, given("2, 1"))
	checkNone(t, given("1, 0 -1"))
	checkNone(t, given("1 0 9, 0"))
	checkNone(t, ring(graph.MaxThings+1))
	checkNone(t, [][]int{slices.Repeat([]int{0}, allNeeds+1)})
}

// MaxThings things, and one more.
func TestThings(t *testing.T) {
	if graph.MaxThings != 4096 {
		t.Errorf("MaxThings: %d", graph.MaxThings)
	}
	most := make([][]int, graph.MaxThings)
	checkWhole(t, most, numbers(0, graph.MaxThings), make([]int, graph.MaxThings), api.OK)
	checkPart(t, most, graph.MaxThings-1, nil, nil, api.OK)
	for _, n := range []int{graph.MaxThings + 1, 2 * graph.MaxThings, 1 << 20} {
		checkNone(t, make([][]int, n))
	}
	checkNone(t, chain(graph.MaxThings+1))
}

// 65536 needs in all, and one more, at however many things: as often as a thing is needed, so often it counts.
func TestNeedsInAll(t *testing.T) {
	for _, things := range []int{2, 3, 17, 257, 4096} {
		needs := make([][]int, things)
		for i := range allNeeds {
			at := 1 + i%(things-1)
			needs[at] = append(needs[at], 0)
		}
		checkWhole(t, needs, numbers(0, things), append([]int{0}, slices.Repeat([]int{1}, things-1)...), api.OK)
		checkPart(t, needs, 0, nil, numbers(1, things), api.OK)
		for _, at := range []int{1, things - 1} {
			more := copied(needs)
			more[at] = append(more[at], 0)
			checkNone(t, more)
		}
	}
	full := [][]int{slices.Repeat([]int{0}, allNeeds)}
	checkCycle(t, full)
	checkPart(t, full, 0, []int{0}, []int{0}, api.OK)
	checkNone(t, [][]int{slices.Repeat([]int{0}, allNeeds+1)})
	checkNone(t, [][]int{slices.Repeat([]int{0}, allNeeds), {0}})
	checkNone(t, [][]int{{0}, slices.Repeat([]int{0}, allNeeds)})
	checkNone(t, [][]int{slices.Repeat([]int{0}, allNeeds/2+1), slices.Repeat([]int{0}, allNeeds/2)})
}

// R1: far more needs than there may be end soon, more than a number of 32 bits tells, too.
func TestNeedsFarTooMany(t *testing.T) {
	long := [][]int{make([]int, 1<<20)}
	for _, n := range []int{1, 2, 2048, graph.MaxThings, graph.MaxThings + 1} {
		needs := slices.Repeat(long, n)
		for _, f := range []func([][]int) ([]int, api.Errno){graph.Sort, graph.Levels} {
			if l, e := f(needs); len(l) > 0 || e != api.ErrArg {
				t.Errorf("of %d long lists: %d numbers, %d", n, len(l), int(e))
			}
		}
		for _, f := range []func([][]int, int) ([]int, api.Errno){graph.Below, graph.Above} {
			if l, e := f(needs, 0); len(l) > 0 || e != api.ErrArg {
				t.Errorf("of %d long lists: %d numbers, %d", n, len(l), int(e))
			}
		}
	}
}

// The table of errors: a number that is no thing's.
func TestNoPlace(t *testing.T) {
	for _, needs := range [][][]int{nil, {}, {nil}, given("2, , 1, 0 2"), given("2, 3, 1, 0 2"), chain(graph.MaxThings)} {
		for _, i := range []int{-1, len(needs), len(needs) + 1, -len(needs) - 1, least, greatest, 1 << 32, -1 << 32} {
			checkPart(t, needs, i, nil, nil, api.ErrArg)
		}
	}
}
