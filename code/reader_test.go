package code_test

import (
	"bytes"
	"math"
	"testing"

	"bastion/api"
	"bastion/code"
)

// P1.2 and P1.3, example 2.
func TestTakenOffInARow(t *testing.T) {
	r := code.NewReader([]byte("\xac\x02\x02no\x05\x00"))
	if r.Left() != 7 || !r.OK() || r.Done() {
		t.Error("at the beginning:", r.Left(), r.OK(), r.Done())
	}
	if n := r.Count(300); n != 300 || r.Left() != 5 {
		t.Error("Count:", n, r.Left())
	}
	if s := r.Str(2); s != "no" || r.Left() != 2 {
		t.Error("Str:", s, r.Left())
	}
	if n := r.Num(); n != -3 || r.Left() != 1 || r.Done() {
		t.Error("Num:", n, r.Left(), r.Done())
	}
	if v := r.Flag(); v || r.Left() != 0 || !r.OK() || !r.Done() {
		t.Error("Flag:", v, r.Left(), r.OK(), r.Done())
	}
	r = code.NewReader([]byte("\xac\x02\x02no\x05\x00"))
	if n := r.Count(299); n != 0 || r.Left() != 0 || r.Str(9) != "" || r.OK() || r.Done() {
		t.Error("Count(299):", n, r.Left(), r.OK(), r.Done())
	}
}

// P1.2: each thing of each kind, within just what is asked, and within far more.
func TestEachTaken(t *testing.T) {
	for _, k := range kinds() {
		for _, thing := range k.things() {
			for _, most := range []int{size(thing), api.MaxCount, greatest} {
				r := code.NewReader(k.want(thing))
				if got := k.take(r, most); got != thing || !r.Done() || !r.OK() || r.Left() != 0 {
					t.Errorf("%s within %d: %s, want %s; done: %v", k.name, most, shown(got), shown(thing), r.Done())
				}
			}
		}
	}
}

// size is what a count or a text must be allowed.
func size(thing any) int {
	switch x := thing.(type) {
	case int:
		return x
	case string:
		return len(x)
	}
	return 0
}

// P1.2: counts and texts of more than is asked are not taken, nor is anything where less than none is asked.
func TestMoreThanAsked(t *testing.T) {
	for _, k := range kinds()[1:3] {
		for _, thing := range k.things() {
			for _, most := range []int{size(thing) - 1, -1, math.MinInt} {
				r := code.NewReader(append(k.want(thing), "\x00\x00"...))
				if got := k.take(r, most); got != k.none {
					t.Errorf("%s within %d: %s", k.name, most, shown(got))
				}
				failed(t, k.name, r)
			}
		}
	}
}

// failed tells where r is not as a reader is that has failed, whatever it is asked.
func failed(t *testing.T, name string, r *code.Reader) {
	t.Helper()
	for range 2 {
		if r.OK() || r.Done() || r.Left() != 0 {
			t.Errorf("%s: it has not failed: OK %v, Done %v, Left %d", name, r.OK(), r.Done(), r.Left())
		}
		for _, k := range kinds() {
			if got := k.take(r, api.MaxCount); got != k.none {
				t.Errorf("%s: having failed, it tells by %s %s", name, k.name, shown(got))
			}
		}
	}
}

// P1.2, example 3: bytes that are none of the kind, with things behind them that could be taken.
func TestFailsOver(t *testing.T) {
	all := kinds()
	num, count, str, flag := all[0], all[1], all[2], all[3]
	for _, c := range []struct {
		k kind
		b string
	}{
		{num, ""},
		{num, "\x80"},
		{num, "\x81\x00"},
		{num, "\x80\x00"},
		{num, "\xff\x80\x00"},
		{num, "\x80\x80\x80\x80\x80\x80\x80\x80\x80\x00"},
		{num, "\xff\xff\xff\xff\xff\xff\xff\xff\xff"},
		{num, "\xff\xff\xff\xff\xff\xff\xff\xff\xff\x02"},
		{num, "\x80\x80\x80\x80\x80\x80\x80\x80\x80\x02"},
		{num, "\xff\xff\xff\xff\xff\xff\xff\xff\xff\x7f"},
		{num, "\xff\xff\xff\xff\xff\xff\xff\xff\xff\x80\x01"},
		{num, "\xff\xff\xff\xff\xff\xff\xff\xff\xff\x81\x00"},
		{num, "\xff\xff\xff\xff\xff\xff\xff\xff\xff\x81\x01"},
		{count, ""},
		{count, "\x83"},
		{count, "\x83\x00"},
		{count, "\x80\x80\x80\x80\x08"},
		{count, "\xff\xff\xff\xff\x0f"},
		{count, "\x80\x80\x80\x80\x10"},
		{count, "\x80\x80\x80\x80\x80\x01"},
		{count, "\xff\xff\xff\xff\xff\xff\xff\xff\xff\x01"},
		{str, ""},
		{str, "\x03no"},
		{str, "\x01"},
		{str, "\x82\x00no"},
		{str, "\x82"},
		{str, "\xff\xff\xff\xff\x07no"},
		{str, "\x80\x80\x80\x80\x08no"},
		{str, "\xff\xff\xff\xff\xff\xff\xff\xff\xff\x01no"},
		{flag, ""},
		{flag, "\x02"},
		{flag, "\x80"},
		{flag, "\x81\x00"},
		{flag, "\xff"},
		{flag, "\x02\x01"},
	} {
		for _, most := range []int{9, api.MaxCount, greatest} {
			r := code.NewReader([]byte(c.b))
			if got := c.k.take(r, most); got != c.k.none {
				t.Errorf("%s over % x tells %s", c.k.name, c.b, shown(got))
			}
			failed(t, c.k.name, r)
		}
	}
}

// P1.2: what was told ahead of a failure was told; what is behind it is not.
func TestFailsWithin(t *testing.T) {
	r := code.NewReader([]byte("\x01\x02\x01\x01\x01"))
	if !r.Flag() || r.Left() != 4 {
		t.Error("the first flag")
	}
	if r.Flag() {
		t.Error("02 is told as a flag")
	}
	failed(t, "within", r)
}

// P1.2 with R3: the bytes are those of the call, neither kept nor changed nor read beyond their end.
func TestBytesAsTheyWere(t *testing.T) {
	b := []byte("\x02no\x05\x81\x01\x01")
	kept := bytes.Clone(b)
	r := code.NewReader(b[:4])
	for i := range b {
		b[i] = 0xff
	}
	if s := r.Str(9); s != "no" {
		t.Errorf("Str shows what was written behind the call: %q", s)
	}
	if n := r.Num(); n != -3 || !r.Done() {
		t.Error("Num shows what was written behind the call:", n)
	}
	copy(b, kept)
	r = code.NewReader(b[4:5])
	r.Num()
	failed(t, "a group behind the end", r)
	code.NewReader(b).Str(9)
	if !bytes.Equal(b, kept) {
		t.Error("a reader changes its bytes")
	}
}

// P1.2 with R2: readers of the same bytes do not see one another.
func TestReadersApart(t *testing.T) {
	b := []byte("\x05\x02no")
	one, other := code.NewReader(b), code.NewReader(b)
	one.Num()
	one.Flag()
	if other.Left() != 4 || !other.OK() || other.Num() != -3 || other.Str(2) != "no" || !other.Done() {
		t.Error("a reader sees what another one did")
	}
}

// P1.3: of nothing, all was taken, till something is asked for.
func TestOverNothing(t *testing.T) {
	for _, b := range [][]byte{nil, {}} {
		for _, k := range kinds() {
			r := code.NewReader(b)
			if !r.OK() || !r.Done() || r.Left() != 0 {
				t.Error("over nothing:", r.OK(), r.Done(), r.Left())
			}
			if got := k.take(r, 9); got != k.none {
				t.Errorf("%s over nothing: %s", k.name, shown(got))
			}
			failed(t, k.name, r)
		}
	}
}

// P1.2 and P1.3 with R1: nil is as one that has failed; one that was made otherwise does not panic.
func TestNilReader(t *testing.T) {
	var none *code.Reader
	failed(t, "nil", none)
	made := new(code.Reader)
	for _, k := range kinds() {
		k.take(made, 9)
	}
	made.OK()
	made.Done()
	made.Left()
}

// P1.6: over whatever bytes, what is told is laid just so in them, and Left never rises.
func TestOnAndOn(t *testing.T) {
	asks := kinds()
	for i := range 256 {
		walk(t, []byte{byte(i)}, asks, i)
		for j := range 256 {
			walk(t, []byte{byte(i), byte(j)}, asks, i+j)
			walk(t, []byte{byte(i), byte(j)}, asks, i+j+1)
		}
	}
	for i := range 6000 {
		walk(t, odd(uint32(i), i%40), asks, i)
	}
}

// walk takes things of all kinds off b till nothing is left, and holds what is told against b.
func walk(t *testing.T, b []byte, asks []kind, turn int) {
	t.Helper()
	r := code.NewReader(b)
	at := 0
	for i := range len(b) + 2 {
		k := asks[(turn+i*(1+turn%3))%len(asks)]
		most := []int{0, 1, 5, 300, api.MaxCount, greatest}[(turn/4+i)%6]
		want, long := k.look(b[at:], most)
		ahead := r.Left()
		got := k.take(r, most)
		if got != want || r.OK() != (long > 0) || r.Left() > ahead {
			t.Errorf("%s within %d over % x from %d: %s, want %s; OK %v, Left %d", k.name, most, b, at, shown(got), shown(want), r.OK(), r.Left())
			return
		}
		if long == 0 {
			failed(t, k.name, r)
			return
		}
		if taken := b[at : len(b)-r.Left()]; !bytes.Equal(k.lay(nil, got), taken) {
			t.Errorf("%s over % x from %d: told %s, taken % x", k.name, b, at, shown(got), taken)
			return
		}
		at += long
	}
}

// P1.7: what stands behind does not matter.
func TestBehind(t *testing.T) {
	tails := []string{"", "\x00", "\x01", "\x80", "\xff\xff", "\x81\x00", "no", string(odd(7, 300))}
	for _, k := range kinds() {
		for _, thing := range k.things() {
			for _, tail := range tails {
				r := code.NewReader(append(k.want(thing), tail...))
				if got := k.take(r, size(thing)); got != thing || r.Left() != len(tail) || !r.OK() || r.Done() != (tail == "") {
					t.Errorf("%s with % .20x behind: %s, want %s, Left %d", k.name, tail, shown(got), shown(thing), r.Left())
				}
			}
		}
	}
}

// P1.8: of a row that is cut, what is whole is told, and the next one fails.
func TestCut(t *testing.T) {
	for turn := range 24 {
		row, things, ends := laidRow(turn)
		for cut := range len(row) + 1 {
			r := code.NewReader(row[:cut])
			for i, end := range ends {
				k := things[i].kind
				got := k.take(r, api.MaxCount)
				if end > cut {
					if got != k.none {
						t.Errorf("row %d cut at %d: %s tells %s of what is not whole", turn, cut, k.name, shown(got))
					}
					failed(t, k.name, r)
					break
				}
				if got != things[i].thing || !r.OK() || r.Left() != cut-end {
					t.Errorf("row %d cut at %d: thing %d is %s, want %s", turn, cut, i, shown(got), shown(things[i].thing))
				}
			}
			if whole := cut == len(row); r.Done() != whole {
				t.Errorf("row %d cut at %d: Done %v", turn, cut, r.Done())
			}
		}
	}
}

type laid struct {
	kind  kind
	thing any
}

// laidRow lays things of all kinds one behind the other; with them, and where each ends.
func laidRow(turn int) ([]byte, []laid, []int) {
	var row []byte
	var things []laid
	var ends []int
	all := kinds()
	for i := range 12 {
		k := all[(i*(1+2*(turn%2))+turn)%len(all)]
		pick := k.things()
		thing := pick[(turn*31+i*17)%len(pick)]
		if s, ok := thing.(string); ok && len(s) > 200 {
			thing = s[:turn*6]
		}
		row = k.lay(row, thing)
		things = append(things, laid{k, thing})
		ends = append(ends, len(row))
	}
	return row, things, ends
}
