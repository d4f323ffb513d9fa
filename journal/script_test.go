package journal_test

import (
	"fmt"
	"math/rand/v2"
	"testing"

	"bastion/api"
	"bastion/disk"
	"bastion/journal"
)

// life is a disk with its journal, and what is told of its plain blocks.
type life struct {
	d    *disk.Disk
	j    *journal.Journal
	told blocks
	may  []blocks // what may stand, if the disk is dead
}

// randomGroup is a group of a disk of size blocks; at times one that is refused.
func randomGroup(from *rand.Rand, size int) []journal.Write {
	n := from.IntN(9)
	if from.IntN(20) == 0 {
		n = 115 + from.IntN(8)
	}
	var l []journal.Write
	taken := map[int]bool{}
	for len(l) < n {
		i := []int{0, 122, 123, size - 1, size - 2, 150 + from.IntN(40), 150 + from.IntN(size-150)}[from.IntN(7)]
		if from.IntN(150) == 0 {
			i = []int{-1, 1, 2, 121, size, 1 << 40}[from.IntN(6)]
		}
		if taken[i] && from.IntN(200) > 0 {
			continue
		}
		taken[i] = true
		b := full(byte(from.IntN(4)))
		b[from.IntN(256)] = byte(from.IntN(256))
		l = append(l, journal.Write{Block: i, Data: b})
	}
	return l
}

// start starts a dead life anew, with cuts while it is opened.
func (s *life) start(t *testing.T, from *rand.Rand) {
	t.Helper()
	for {
		s.d = reopened(t, s.d)
		if from.IntN(2) == 0 {
			s.d.Cut(from.IntN(9))
		}
		j, e := journal.Open(s.d)
		if e == api.OK {
			s.j = j
			s.told, s.may = checkOneOf(t, j, s.may), nil
			return
		}
		if j != nil || e != api.ErrDead || !s.d.Dead() {
			t.Fatalf("Open: %v, %d, dead: %v", j, int(e), s.d.Dead())
		}
	}
}

// wrote takes up what came of writing l, which is whole or not at all: e ought to be want, if no cut was met.
func (s *life) wrote(t *testing.T, l []journal.Write, e, want api.Errno, unsure bool) {
	t.Helper()
	switch {
	case want != api.OK || !s.d.Dead():
		if e != want {
			t.Errorf("%d writes: %d; want %d", len(l), int(e), int(want))
		}
		if e == api.OK {
			s.told = s.told.with(l...)
		}
	case e != api.ErrDead:
		t.Errorf("%d writes to a disk that was cut: %d", len(l), int(e))
	case unsure:
		s.may = []blocks{s.told, s.told.with(l...)}
	default:
		s.may = []blocks{s.told}
	}
}

// step does one thing at random to a life that is not dead.
func (s *life) step(t *testing.T, from *rand.Rand) string {
	t.Helper()
	size := s.d.Len()
	switch kind := from.IntN(20); {
	case kind < 9:
		l := randomGroup(from, size)
		s.wrote(t, l, s.j.Do(l), errorOfDo(size, l), true)
		return fmt.Sprintf("Do of %d", len(l))
	case kind < 13:
		l := randomGroup(from, size)
		if len(l) == 0 {
			return "nothing"
		}
		s.wrote(t, l[:1], s.j.Raw(l[0].Block, l[0].Data), errorOfDo(size, l[:1]), false)
		return fmt.Sprintf("Raw of %d", l[0].Block)
	case kind < 17:
		n := from.IntN(25)
		s.d.Cut(n)
		return fmt.Sprintf("Cut(%d)", n)
	case kind < 18:
		killed(t, s.d)
		s.may = []blocks{s.told}
		return "killed"
	default:
		s.j = opened(t, s.d)
		return "Open"
	}
}

// P4.1 to P4.4: whatever groups and blocks are written, wherever the disk is cut in them, and in the Opens that follow: all reads are as it is told.
func TestScripts(t *testing.T) {
	from := rand.New(rand.NewPCG(4, 2026))
	for script := range 60 {
		d := newDisk(t, []int{512, 700, 4096}[script%3])
		s := &life{d: d, j: opened(t, d)}
		for step := range 150 {
			what := s.step(t, from)
			if s.d.Dead() {
				s.start(t, from)
			}
			if step%5 == 0 || t.Failed() {
				checkAll(t, s.j, s.told)
			}
			if t.Failed() {
				t.Fatalf("script %d, step %d: %s", script, step, what)
			}
		}
		checkAll(t, s.j, s.told)
	}
}
