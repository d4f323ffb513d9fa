package graph

import (
	"container/heap"
	"sort"
)

// ready holds the things that may come next in the row. The order of its part makes the least of them the first one.
type ready struct{ sort.IntSlice }

// Push and Pop are for the heap alone.
func (r *ready) Push(thing any) { r.IntSlice = append(r.IntSlice, thing.(int)) }

func (r *ready) Pop() any {
	last := r.Len() - 1
	thing := r.IntSlice[last]
	r.IntSlice = r.IntSlice[:last]
	return thing
}

func (r *ready) put(thing int) { heap.Push(r, thing) }

// take takes the least one off.
func (r *ready) take() int { return heap.Pop(r).(int) }

// rowOf is the row, as far as it goes: things of a cycle, and what rests on them, never stand in it.
func rowOf(needs [][]int) []int {
	lists := needers(needs)
	open := make([]int, len(needs)) // how many of a thing's needs are not in the row
	var next ready
	for i, list := range needs {
		open[i] = len(list)
		if open[i] == 0 {
			next.put(i)
		}
	}
	row := make([]int, 0, len(needs))
	for next.Len() > 0 {
		i := next.take()
		row = append(row, i)
		for _, k := range lists[i] {
			open[k]--
			if open[k] == 0 {
				next.put(k)
			}
		}
	}
	return row
}
