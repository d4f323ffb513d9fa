package desc_test

import (
	"math/rand/v2"
	"slices"
	"strings"
	"testing"

	"bastion/api"
	"bastion/desc"
	"bastion/words"
)

// P12.3: Parse of Print is the description, but for numbers of lines, which rise by one from 1 on.
func TestParseOfPrint(t *testing.T) {
	r := rand.New(rand.NewPCG(12, 3))
	right := 0
	for range 6000 {
		d := docOf(r, drawnLines(r, 80))
		s, e := desc.Print(d)
		if e != api.OK {
			continue
		}
		right++
		check(t, s, numbered(d, rising()), 0, api.OK)
		// Printed once more it is the same text.
		again, no, _ := desc.Parse(s)
		checkPrint(t, again, s, api.OK)
		if no != 0 {
			t.Errorf("a line %d of what is right", no)
		}
	}
	if right < 1000 {
		t.Errorf("only %d descriptions are right", right)
	}
}

// P12.3: what is read is printed, and read the same.
func TestPrintOfParse(t *testing.T) {
	r := rand.New(rand.NewPCG(12, 4))
	right := 0
	for range 6000 {
		d, _, e := desc.Parse(drawnText(r, drawnLines(r, 60)))
		if e != api.OK {
			continue
		}
		right++
		s, e := desc.Print(d)
		if e != api.OK {
			t.Errorf("Print(%s): %d", short(d), int(e))
			continue
		}
		check(t, s, numbered(d, rising()), 0, api.OK)
	}
	if right < 1000 {
		t.Errorf("only %d texts are right", right)
	}
}

// P12.3: what is read is printed only if its lines are not too long.
func TestPrintOfParseTooLong(t *testing.T) {
	for size := 390; size <= 400; size++ {
		line := "do " + strings.Repeat("x", size-3)
		d, no, e := desc.Parse("job a\n" + line)
		if no != 0 || e != api.OK {
			t.Fatalf("Parse of a line of %d bytes: %d, %d", size, no, int(e))
		}
		if size+2 <= 400 {
			checkPrint(t, d, "job a\n  "+line+"\n", api.OK)
		} else {
			checkPrint(t, d, "", api.ErrTooLarge)
		}
	}
}

// P12.4: remarks and empty lines that are put between change nothing but numbers.
func TestLinesBetween(t *testing.T) {
	r := rand.New(rand.NewPCG(12, 5))
	for range 3000 {
		lines := drawnLines(r, 50)
		forms := make([]string, len(lines))
		for i, line := range lines {
			form, e := words.Join(line)
			if e != api.OK {
				t.Fatalf("Join: %d", int(e))
			}
			forms[i] = form
		}
		want, no, e := desc.Parse(strings.Join(forms, "\n"))
		// The numbers that the lines have, and those that they get.
		var spread []string
		var numbers []int
		for _, form := range forms {
			for r.IntN(2) == 0 {
				spread = append(spread, oneOf(r, []string{"", "   ", "\t", "#", "# job a", "  #\"\xff\x00", "#" + strings.Repeat("x", 399), strings.Repeat(" ", 400)}))
			}
			spread = append(spread, form)
			numbers = append(numbers, len(spread))
		}
		if no > 0 {
			no = numbers[no-1]
		}
		at := 0
		check(t, strings.Join(append(spread, "", "#"), "\n"), numbered(want, func() int { at++; return numbers[at-1] }), no, e)
	}
}

// P12.4: what is put into a line, blanks and a remark behind it, changes nothing either.
func TestRemarksBehind(t *testing.T) {
	all := []string{"var v 1", "template t", "do say hello", "job a", "use t", "needs b", "manual", "job b", "axis os x y"}
	want, _, e := desc.Parse(strings.Join(all, "\n"))
	if e != api.OK || len(want.Sections) != 3 {
		t.Fatalf("%v, %d", want, int(e))
	}
	for _, behind := range []string{" ", "\t", " # remark", "\t#\"", "   #job c"} {
		one := slices.Clone(all)
		for i := range one {
			one[i] = " " + one[i] + behind
		}
		check(t, strings.Join(one, "\n"), want, 0, api.OK)
	}
}
