package graph_test

import (
	"math/rand/v2"
	"slices"
	"testing"

	"bastion/api"
	"bastion/graph"
)

// checkRow tells where the row, or the levels, are not these.
func checkRow(t *testing.T, text string, row, levels []int) {
	t.Helper()
	needs := given(text)
	checkWhole(t, needs, row, levels, api.OK)
	checkAll(t, needs)
}

// P15.1, the example.
func TestRow(t *testing.T) {
	checkRow(t, "2, , 1, 0 2", []int{1, 2, 0, 3}, []int{2, 0, 1, 3})
	checkRow(t, "", []int{0}, []int{0})
	checkRow(t, ", , ", []int{0, 1, 2}, []int{0, 0, 0})
	checkRow(t, ", 0, 1", []int{0, 1, 2}, []int{0, 1, 2})
	checkRow(t, "1, 2, ", []int{2, 1, 0}, []int{2, 1, 0})
	checkRow(t, ", 0, 0, 1 2", []int{0, 1, 2, 3}, []int{0, 1, 1, 2})
	checkRow(t, "1 2, 3, 3, ", []int{3, 1, 2, 0}, []int{2, 1, 1, 0})
}

// P15.1: of no things there is a row, too.
func TestRowOfNone(t *testing.T) {
	checkWhole(t, nil, nil, nil, api.OK)
	checkWhole(t, [][]int{}, nil, nil, api.OK)
	checkWhole(t, given("1, 0")[:0], nil, nil, api.OK)
	checkWhole(t, [][]int{nil, {}}, []int{0, 1}, []int{0, 0}, api.OK)
}

// P15.1: the least thing that is ready comes next, not the one that has been ready longest, nor that of the least level.
func TestRowLeast(t *testing.T) {
	checkRow(t, "3, , , ", []int{1, 2, 3, 0}, []int{1, 0, 0, 0})
	checkRow(t, "1, , , ", []int{1, 0, 2, 3}, []int{1, 0, 0, 0})
	checkRow(t, "1, 2, , ", []int{2, 1, 0, 3}, []int{2, 1, 0, 0})
	checkRow(t, "2, 3, , , ", []int{2, 0, 3, 1, 4}, []int{1, 1, 0, 0, 0})
	checkRow(t, ", 5, 0, 2, , ", []int{0, 2, 3, 4, 5, 1}, []int{0, 1, 1, 2, 0, 0})
	checkRow(t, "4, 4, 4, 4, , ", []int{4, 0, 1, 2, 3, 5}, []int{1, 1, 1, 1, 0, 0})
	checkRow(t, "9 8, 7, , 1, 2, 3, , , 6, ", []int{2, 4, 6, 7, 1, 3, 5, 8, 9, 0}, []int{2, 1, 0, 2, 1, 3, 0, 0, 1, 0})
}

// Words: needs stand in any order, and any of them more than once.
func TestRowTwice(t *testing.T) {
	checkRow(t, ", 0 0, 1 0 1 0 0", []int{0, 1, 2}, []int{0, 1, 2})
	checkRow(t, "2 1 2 1 1, 2 2 2, ", []int{2, 1, 0}, []int{2, 1, 0})
	for _, text := range []string{", 0, 1, 0 1 2", ", 0, 1, 2 1 0", ", 0, 1, 1 2 0", ", 0, 1, 2 0 1", ", 0, 1, 0 0 2 2 0 1 1"} {
		checkRow(t, text, []int{0, 1, 2, 3}, []int{0, 1, 2, 3})
	}
	many := slices.Repeat([]int{1}, allNeeds)
	checkWhole(t, [][]int{many, nil, nil}, []int{1, 0, 2}, []int{1, 0, 0}, api.OK)
	checkPart(t, [][]int{many, nil, nil}, 0, []int{1}, nil, api.OK)
	checkPart(t, [][]int{many, nil, nil}, 1, nil, []int{0}, api.OK)
}

// P15.1: the level is that of the longest way, in whatever order the needs stand.
func TestLevels(t *testing.T) {
	for _, needs := range []string{"0 1 2 3", "3 2 1 0", "3 0", "0 3", "1 3 2"} {
		checkRow(t, ", 0, 1, 2, "+needs, []int{0, 1, 2, 3, 4}, []int{0, 1, 2, 3, 4})
	}
	checkRow(t, ", 0, 0, , 1 3", []int{0, 1, 2, 3, 4}, []int{0, 1, 1, 0, 2})
	checkRow(t, "4, 4, 0 3, , ", []int{3, 4, 0, 1, 2}, []int{1, 1, 2, 0, 0})
}

// P15.1 with R1: as many things as there may be.
func TestRowLong(t *testing.T) {
	const n = graph.MaxThings
	rising, falling := numbers(0, n), backward(numbers(0, n))
	checkWhole(t, make([][]int, n), rising, make([]int, n), api.OK)
	checkWhole(t, chain(n), falling, falling, api.OK)
	checkWhole(t, turned(chain(n)), rising, rising, api.OK)
	// Each of the first half needs one of the other half: all of these are ready at first, and one more behind each.
	half := make([][]int, n)
	var row []int
	for i := range n / 2 {
		half[i] = []int{n - 1 - i}
	}
	for i := n / 2; i < n; i++ {
		row = append(row, i, n-1-i)
	}
	checkWhole(t, half, row, append(slices.Repeat([]int{1}, n/2), make([]int, n/2)...), api.OK)
	// All that may be needed: each of 256 things needs each of 256 others.
	dense := make([][]int, n)
	for i := range 256 {
		dense[i] = numbers(n-256, n)
	}
	row = append(numbers(256, n), numbers(0, 256)...)
	checkWhole(t, dense, row, append(slices.Repeat([]int{1}, 256), make([]int, n-256)...), api.OK)
}

// P15.1, P15.2: all needs of up to four things, each need once.
func TestAllShort(t *testing.T) {
	for n := range 5 {
		for bits := range 1 << (n * n) {
			if n == 4 && bits%7 > 0 { // of four things one row of needs in seven
				continue
			}
			needs := make([][]int, n)
			for at := range n * n {
				if bits>>at&1 == 1 {
					needs[at/n] = append(needs[at/n], at%n)
				}
			}
			checkAll(t, needs)
		}
	}
}

// P15.1, P15.2: needs drawn at random, of which some may not be.
func TestDrawn(t *testing.T) {
	r := rand.New(rand.NewPCG(15, 1))
	seen := map[api.Errno]int{}
	for n := 1; n <= 12; n++ {
		for range 1000 {
			needs := drawn(r, n)
			_, _, e := wholeTold(needs)
			checkAll(t, needs)
			seen[e]++
		}
	}
	for _, e := range []api.Errno{api.OK, api.ErrArg, api.ErrCycle} {
		if seen[e] < 200 {
			t.Errorf("only %d of the needs drawn are answered with %d", seen[e], int(e))
		}
	}
}
