package disk_test

import (
	"fmt"
	"math"
	"math/rand/v2"
	"testing"

	"bastion/api"
	"bastion/disk"
)

// pair is a disk, and what is told of it.
type pair struct {
	real *disk.Disk
	told *told
}

// checkStep does at random one thing to the pair and to what is told of it, tells where their answers are apart, and answers a new pair, if one came of it.
func (p pair) checkStep(t *testing.T, from *rand.Rand) (pair, string) {
	t.Helper()
	n := p.told.size
	places := []int{0, 1, 2, 3, n - 1, n - 2, n, -1, math.MaxInt, math.MinInt}
	i := places[from.IntN(len(places))]
	if from.IntN(3) > 0 {
		i = from.IntN(6)
	}
	switch kind := from.IntN(20); {
	case kind < 10:
		b := full(byte(from.IntN(256)))
		b[from.IntN(256)]++
		if from.IntN(8) == 0 {
			b = b[from.IntN(3):]
		}
		checkWrite(t, p.real, i, b, p.told.write(i, b))
		return pair{}, fmt.Sprintf("Write(%d), %d bytes", i, len(b))
	case kind < 15:
		b, e := p.told.read(i)
		checkRead(t, p.real, i, b, e)
		return pair{}, fmt.Sprintf("Read(%d)", i)
	case kind < 17:
		cut := []int{0, 1, 2, 5, 9, 20, math.MaxInt, -1}[from.IntN(8)]
		checkCut(t, p.real, cut, p.told.cut(cut))
		return pair{}, fmt.Sprintf("Cut(%d)", cut)
	case kind < 19:
		told, e := p.told.reopen()
		if e != api.OK {
			checkNotReopened(t, p.real, e)
			return pair{}, "Reopen of one that is not dead"
		}
		return pair{reopened(t, p.real), told}, "Reopen"
	default:
		return pair{p.real.Copy(), p.told.copy()}, "Copy"
	}
}

// P3.1 to P3.4: whatever is done to disks, to their copies, and to those that came of them: each answers what is told of it.
func TestScripts(t *testing.T) {
	from := rand.New(rand.NewPCG(3, 2026))
	for script := range 60 {
		size := []int{512, 513, 700}[script%3]
		first, e := newTold(size)
		if e != api.OK {
			t.Fatal("a disk that is none")
		}
		all := []pair{{newDisk(t, size), first}}
		for step := range 300 {
			made, what := all[from.IntN(len(all))].checkStep(t, from)
			switch {
			case made.real == nil:
			case len(all) < 8:
				all = append(all, made)
			default:
				all[from.IntN(len(all))] = made
			}
			for _, p := range all {
				checkStands(t, p.real, p.told.size, p.told.writes(), p.told.dead)
			}
			if t.Failed() {
				t.Fatalf("script %d, step %d: %s", script, step, what)
			}
		}
		for _, p := range all {
			checkWhole(t, p)
		}
	}
}

// checkWhole tells where the blocks of a pair, which may be dead, are apart.
func checkWhole(t *testing.T, p pair) {
	t.Helper()
	if p.told.dead {
		p.real = reopened(t, p.real)
		p.told, _ = p.told.reopen()
	}
	checkAll(t, p.real, p.told)
}
