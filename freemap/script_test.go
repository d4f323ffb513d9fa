package freemap_test

import (
	"fmt"
	"math/rand/v2"
	"testing"

	"bastion/api"
	"bastion/freemap"
)

// pair is a map, and what is told of it.
type pair struct {
	real *freemap.Map
	told *told
}

// checkStep does at random one thing to the pair and to what is told of it, tells where their answers are apart, and answers a new pair, if one came of it.
func (p pair) checkStep(t *testing.T, from *rand.Rand) (pair, string) {
	t.Helper()
	n := p.told.size
	i := from.IntN(n + 1)
	if from.IntN(12) == 0 {
		places := outside(n)
		i = places[from.IntN(len(places))]
	}
	switch kind := from.IntN(20); {
	case kind < 7:
		want, e := p.told.take()
		checkTake(t, p.real, want, e)
		return pair{}, "Take"
	case kind < 11:
		checkClaim(t, p.real, i, p.told.claim(i))
		return pair{}, fmt.Sprintf("Claim(%d)", i)
	case kind < 16:
		checkDrop(t, p.real, i, p.told.drop(i))
		return pair{}, fmt.Sprintf("Drop(%d)", i)
	case kind < 17:
		return pair{p.real.Copy(), p.told.copy()}, "Copy"
	case kind < 18:
		return pair{loaded(t, p.real.Bytes()), p.told.copy()}, "Load of Bytes"
	default:
		if p.real.Taken(i) != p.told.stands(i) {
			t.Errorf("Taken(%d): %v", i, p.real.Taken(i))
		}
		return pair{}, fmt.Sprintf("Taken(%d)", i)
	}
}

// P5.1 to P5.5: whatever is done to maps, to their copies, and to those that were loaded of their bytes: each answers what is told of it.
func TestScripts(t *testing.T) {
	from := rand.New(rand.NewPCG(5, 2026))
	for script := range 60 {
		size := []int{0, 1, 8, 10, 23, 64, 130}[script%7]
		all := []pair{{newMap(t, size), &told{size: size}}}
		for step := range 300 {
			made, what := all[from.IntN(len(all))].checkStep(t, from)
			switch {
			case made.real == nil:
			case len(all) < 6:
				all = append(all, made)
			default:
				all[from.IntN(len(all))] = made
			}
			for _, p := range all {
				checkAll(t, p.real, p.told)
			}
			if t.Failed() {
				t.Fatalf("script %d, step %d: %s", script, step, what)
			}
		}
		for _, p := range all {
			checkEmptied(t, p)
		}
	}
}

// checkEmptied drops and takes all that a pair has, and tells where that does not go as it must.
func checkEmptied(t *testing.T, p pair) {
	t.Helper()
	for _, i := range p.real.List() {
		checkDrop(t, p.real, i, api.OK)
	}
	checkAll(t, p.real, &told{size: p.told.size})
	for i := range p.told.size {
		checkTake(t, p.real, i, api.OK)
	}
	checkTake(t, p.real, 0, api.ErrFull)
}
