package graph_test

import (
	"slices"
	"testing"

	"bastion/api"
	"bastion/graph"
)

// P15.2, the example.
func TestRests(t *testing.T) {
	needs := given("2, , 1, 0 2")
	checkPart(t, needs, 0, []int{1, 2}, []int{3}, api.OK)
	checkPart(t, needs, 1, nil, []int{0, 2, 3}, api.OK)
	checkPart(t, needs, 2, []int{1}, []int{0, 3}, api.OK)
	checkPart(t, needs, 3, []int{0, 1, 2}, nil, api.OK)
	checkPart(t, [][]int{nil}, 0, nil, nil, api.OK)
	checkPart(t, given("2 2 2, , "), 0, []int{2}, nil, api.OK)
	checkPart(t, given("2 2 2, , "), 2, nil, []int{0}, api.OK)
	checkPart(t, given("1, , 3, "), 0, []int{1}, nil, api.OK)
	checkPart(t, given("1, , 3, "), 3, nil, []int{2}, api.OK)
}

// P15.2, the example: in a cycle a thing rests on itself; one that only needs things of a cycle, or is needed there, does not.
func TestRestsInCycle(t *testing.T) {
	needs := given("2, 3, 1, 0 2")
	for i := range needs {
		checkPart(t, needs, i, []int{0, 1, 2, 3}, []int{0, 1, 2, 3}, api.OK)
	}
	checkPart(t, given("0"), 0, []int{0}, []int{0}, api.OK)
	needs = given("1, 2, 1 3, , 3") // 0 needs things of the cycle 1 2, which needs 3; 4 needs 3
	checkPart(t, needs, 0, []int{1, 2, 3}, nil, api.OK)
	checkPart(t, needs, 1, []int{1, 2, 3}, []int{0, 1, 2}, api.OK)
	checkPart(t, needs, 2, []int{1, 2, 3}, []int{0, 1, 2}, api.OK)
	checkPart(t, needs, 3, nil, []int{0, 1, 2, 4}, api.OK)
	checkPart(t, needs, 4, []int{3}, nil, api.OK)
	needs = given(", 1 0, 1")
	checkPart(t, needs, 0, nil, []int{1, 2}, api.OK)
	checkPart(t, needs, 1, []int{0, 1}, []int{1, 2}, api.OK)
	checkPart(t, needs, 2, []int{0, 1}, nil, api.OK)
	needs = given("1, 0, 3, 2")
	checkPart(t, needs, 1, []int{0, 1}, []int{0, 1}, api.OK)
	checkPart(t, needs, 2, []int{2, 3}, []int{2, 3}, api.OK)
}

// P15.2 with R1: as many things, and as many needs, as there may be.
func TestRestsLong(t *testing.T) {
	const n = graph.MaxThings
	for _, i := range []int{0, 1, n / 2, n - 2, n - 1} {
		checkPart(t, chain(n), i, numbers(i+1, n), numbers(0, i), api.OK)
		checkPart(t, turned(chain(n)), i, numbers(0, i), numbers(i+1, n), api.OK)
		checkPart(t, ring(n), i, numbers(0, n), numbers(0, n), api.OK)
		checkPart(t, turned(ring(n)), i, numbers(0, n), numbers(0, n), api.OK)
	}
	fan := make([][]int, n)
	fan[7] = append(numbers(0, 7), numbers(8, n)...)
	checkPart(t, fan, 7, fan[7], nil, api.OK)
	checkPart(t, fan, n-1, nil, []int{7}, api.OK)
	// A thing that needs half of them, each of which needs one of the others; and all of it many times.
	half := make([][]int, n)
	half[0] = backward(numbers(1, n/2))
	for i := 1; i < n/2; i++ {
		half[i] = slices.Repeat([]int{n - i}, 20)
	}
	half[0] = slices.Repeat(half[0], 11)
	below := append(numbers(1, n/2), numbers(n/2+1, n)...)
	checkPart(t, half, 0, below, nil, api.OK)
	checkPart(t, half, n/2, nil, nil, api.OK)
	checkPart(t, half, n-1, nil, []int{0, 1}, api.OK)
	// Each of 256 things needs each of 256: themselves.
	dense := make([][]int, n)
	for i := range 256 {
		dense[2*i] = nil
		for k := range 256 {
			dense[2*i] = append(dense[2*i], 2*k)
		}
	}
	checkPart(t, dense, 510, dense[0], dense[0], api.OK)
	checkPart(t, dense, 511, nil, nil, api.OK)
}
