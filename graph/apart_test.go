package graph_test

import (
	"slices"
	"strconv"
	"sync"
	"testing"

	"bastion/api"
	"bastion/graph"
)

// write writes all over a list, with its spare room.
func write(list []int) {
	list = list[:cap(list)]
	for i := range list {
		list[i] = -7
	}
}

// four are the four calls, each of the thing i.
func four(i int) []func([][]int) ([]int, api.Errno) {
	return []func([][]int) ([]int, api.Errno){
		graph.Sort,
		graph.Levels,
		func(needs [][]int) ([]int, api.Errno) { return graph.Below(needs, i) },
		func(needs [][]int) ([]int, api.Errno) { return graph.Above(needs, i) },
	}
}

// R3: what was handed in, and later answers, show nothing of what is written to an answer.
func TestHandedOut(t *testing.T) {
	for _, text := range []string{"2, , 1, 0 2", "1, ", "1 2 3 4 5, , , , , ", "1, 2, 3, 4, 5, ", ", 0, 0, 0, 0, 0"} {
		needs := given(text)
		for i := range needs {
			for no, f := range four(i) {
				want, _ := f(needs)
				want = slices.Clone(want)
				got, _ := f(needs)
				write(got)
				if !same(needs, given(text)) {
					t.Fatalf("the needs show what was written to the answer %d: %v", no, needs)
				}
				call(t, "the call "+strconv.Itoa(no), f, needs, want, api.OK)
			}
		}
	}
}

// R3: answers show nothing of what is written afterwards to what was handed in.
func TestNotKept(t *testing.T) {
	for no, f := range four(0) {
		needs := given("3 1 2, , 1, 2 4, ")
		got, _ := f(needs)
		want := slices.Clone(got)
		for i := range needs {
			write(needs[i])
			needs[i] = nil
		}
		if !slices.Equal(got, want) {
			t.Errorf("the answer %d shows what was written to the needs: %v; want %v", no, got, want)
		}
	}
}

// R3: the room behind the end of what is handed in is not read, and not written to.
func TestRoomBehind(t *testing.T) {
	all := given("1 9 -1 9, 2 0 9, 9 9 9 9 9, 0, 99")
	for i, size := range []int{1, 1, 0, 1} {
		all[i] = all[i][:size]
	}
	needs := all[:4]
	checkWhole(t, needs, []int{2, 1, 0, 3}, []int{2, 1, 0, 3}, api.OK)
	checkPart(t, needs, 0, []int{1, 2}, []int{3}, api.OK)
	checkPart(t, needs, 3, []int{0, 1, 2}, nil, api.OK)
	checkPart(t, needs, 2, nil, []int{0, 1, 3}, api.OK)
	all[0], all[1], all[2] = all[0][:4], all[1][:3], all[2][:5]
	if !same(all, given("1 9 -1 9, 2 0 9, 9 9 9 9 9, 0, 99")) {
		t.Errorf("the room behind the needs: %v", all)
	}
}

// R3: things may have one list in common.
func TestOneList(t *testing.T) {
	list := []int{4, 3}
	needs := [][]int{list, list, list[:1], nil, list[1:]}
	checkWhole(t, needs, []int{3, 4, 0, 1, 2}, []int{2, 2, 2, 0, 1}, api.OK)
	checkPart(t, needs, 0, []int{3, 4}, nil, api.OK)
	checkPart(t, needs, 3, nil, []int{0, 1, 2, 4}, api.OK)
}

// R2: an answer hangs on what is asked alone, whatever was asked ahead.
func TestAgain(t *testing.T) {
	for range 3 {
		checkRow(t, "2, , 1, 0 2", []int{1, 2, 0, 3}, []int{2, 0, 1, 3})
		checkCycle(t, given("2, 3, 1, 0 2"))
		checkNone(t, given("1"))
		checkRow(t, ", ", []int{0, 1}, []int{0, 0})
		checkPart(t, given("1, "), 2, nil, nil, api.ErrArg)
		checkPart(t, given("1, "), 0, []int{1}, nil, api.OK)
	}
}

// R2: calls that run at one time, with the same needs, do not see one another.
func TestAtOneTime(t *testing.T) {
	needs := given("2, , 1, 0 2, 3 1, 4 0 2, , 6 5")
	var all sync.WaitGroup
	for range 8 {
		all.Go(func() {
			for range 200 {
				checkAll(t, needs)
			}
		})
	}
	all.Wait()
}
