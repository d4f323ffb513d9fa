package matrix

import (
	"iter"
	"slices"

	"bastion/api"
)

// check tells why there are no rows of axes, if there are none.
func check(l []Axis) api.Errno {
	names := make(map[string]struct{}, len(l))
	for _, axis := range l {
		if _, is := names[axis.Name]; is {
			return api.ErrTwice
		}
		if len(axis.Values) == 0 {
			return api.ErrArg
		}
		names[axis.Name] = struct{}{}
	}
	if isFull(l) {
		return api.ErrFull
	}
	return api.OK
}

// isFull tells whether axes that have values make more rows than there may be. It stops there: their number may be past all numbers.
func isFull(l []Axis) bool {
	count := 1
	for _, axis := range l {
		if len(axis.Values) > api.MaxJobs/count {
			return true
		}
		count *= len(axis.Values)
	}
	return false
}

// rows tells the rows of axes that have values.
func rows(l []Axis) iter.Seq[[]string] {
	return func(yield func(row []string) bool) {
		c := newCounter(l)
		for more := true; more; more = c.goOn() {
			// Who is told a row may keep it: the counter's own one is another when it has gone on.
			if !yield(slices.Clone(c.row)) {
				return
			}
		}
	}
}

// counter stands at one row of axes, and goes round as a counter does: the last axis fastest.
type counter struct {
	axes []Axis
	at   []int // the places of the row's values
	row  []string
}

// newCounter stands at the first row.
func newCounter(l []Axis) *counter {
	c := &counter{axes: l, at: make([]int, len(l)), row: make([]string, len(l))}
	for i := range l {
		c.turn(i, 0)
	}
	return c
}

// turn goes to a place of one axis.
func (c *counter) turn(axis, to int) {
	c.at[axis] = to
	c.row[axis] = c.axes[axis].Values[to]
}

// goOn goes to the next row, and tells whether there was one: behind the last row each axis has gone round.
func (c *counter) goOn() bool {
	for i := len(c.axes) - 1; i >= 0; i-- {
		if to := c.at[i] + 1; to < len(c.axes[i].Values) {
			c.turn(i, to)
			return true
		}
		c.turn(i, 0)
	}
	return false
}
