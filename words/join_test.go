package words_test

import (
	"slices"
	"strings"
	"testing"

	"bastion/api"
	"bastion/words"
)

// checkJoin tells where Join answers of the words something else than it must.
func checkJoin(t *testing.T, all []string, want string, wantErr api.Errno) {
	t.Helper()
	if got, e := words.Join(all); got != want || e != wantErr {
		t.Errorf("Join(%.500q): %q, %d; want %q, %d", all, got, int(e), want, int(wantErr))
	}
}

// P2.1, example 2.
func TestJoinExamples(t *testing.T) {
	for _, c := range []struct {
		all  []string
		want string
	}{
		{[]string{"push", "a b", "", "#", "x#"}, `push "a b" "" "#" x#`},
		{[]string{"\xff"}, `"\xff"`},
		{nil, ""},
		{[]string{}, ""},
		{[]string{""}, `""`},
		{[]string{"", ""}, `"" ""`},
		{[]string{"a"}, "a"},
		{[]string{"a", "b", "c"}, "a b c"},
		{[]string{`a\b`, `\`}, `a\b \`},
		{[]string{"\"\\\n\t"}, `"\"\\\n\t"`},
		{[]string{"a\"b", "#a", "a#"}, `"a\"b" "#a" a#`},
		{[]string{"\x00\x1f \x7f\x80~"}, `"\x00\x1f \x7f\x80~"`},
		{[]string{"\u00e4"}, `"\xc3\xa4"`},
		{[]string{" ", "\r"}, `" " "\x0d"`},
		{[]string{`\ `}, `"\\ "`},
	} {
		checkJoin(t, c.all, c.want, api.OK)
	}
}

// P2.1: each byte, alone and with others, and many words besides.
func TestJoinForms(t *testing.T) {
	for _, all := range manyWords() {
		want, e := joined(all)
		checkJoin(t, all, want, e)
	}
}

// P2.1: all short words.
func TestJoinAllShort(t *testing.T) {
	short([]string{"a", "\"", "\\", "#", " ", "\t", "\n", "x", "4", "\x7f", "\xff"}, 4, func(word string) {
		checkJoin(t, []string{word}, formOf(word), api.OK)
		checkJoin(t, []string{"a", word}, "a "+formOf(word), api.OK)
	})
}

// P2.1, the table of errors: a line of MaxLine bytes, and of one more, whatever its words are.
func TestJoinTooLarge(t *testing.T) {
	most := api.MaxLine
	for _, c := range []struct {
		fits []string
		line string
	}{
		{[]string{strings.Repeat("a", most)}, strings.Repeat("a", most)},
		{[]string{strings.Repeat(" ", most-2)}, `"` + strings.Repeat(" ", most-2) + `"`},
		{[]string{strings.Repeat("\n", most/2-1)}, `"` + strings.Repeat(`\n`, most/2-1) + `"`},
		{[]string{strings.Repeat("\x00", 99) + "ab"}, `"` + strings.Repeat(`\x00`, 99) + `ab"`},
		{[]string{"ab", strings.Repeat("a", most-3)}, "ab " + strings.Repeat("a", most-3)},
		{append(slices.Repeat([]string{"a"}, most/2-1), "bc"), strings.Repeat("a ", most/2-1) + "bc"},
		{append(slices.Repeat([]string{""}, most/3), "a"), strings.Repeat(`"" `, most/3) + "a"},
	} {
		if len(c.line) != most {
			t.Fatalf("a line of %d bytes", len(c.line))
		}
		checkJoin(t, c.fits, c.line, api.OK)
		last := len(c.fits) - 1
		longer := slices.Clone(c.fits)
		longer[last] += "a"
		checkJoin(t, longer, "", api.ErrTooLarge)
		checkJoin(t, append(slices.Clone(c.fits), ""), "", api.ErrTooLarge)
		checkJoin(t, append(slices.Clone(c.fits), "a", "b"), "", api.ErrTooLarge)
		checkJoin(t, append([]string{strings.Repeat("a", most)}, c.fits...), "", api.ErrTooLarge)
	}
	// The blank between two counts.
	checkJoin(t, []string{strings.Repeat("a", most-2), "b"}, strings.Repeat("a", most-2)+" b", api.OK)
	checkJoin(t, []string{strings.Repeat("a", most-1), "b"}, "", api.ErrTooLarge)
}

// P2.1 with R1: it ends soon, however much it is handed.
func TestJoinOfVeryMuch(t *testing.T) {
	long := strings.Repeat("\x00", 1<<20)
	checkJoin(t, slices.Repeat([]string{long}, 1<<20), "", api.ErrTooLarge)
	checkJoin(t, make([]string, 1<<20), "", api.ErrTooLarge)
}

// P2.1 with R3: the list that is handed in stays as it is, with the room behind its end, and that room is not read.
func TestJoinChangesNothing(t *testing.T) {
	all := []string{"a b", "", "c", "behind", "the end"}
	checkJoin(t, all[:3], `"a b" "" c`, api.OK)
	if !same(all, []string{"a b", "", "c", "behind", "the end"}) {
		t.Errorf("what was handed in is changed: %q", all)
	}
}

// P2.3: Split of Join is the words.
func TestSplitOfJoin(t *testing.T) {
	fit := 0
	for _, all := range manyWords() {
		line, e := words.Join(all)
		if e == api.ErrTooLarge {
			continue
		}
		fit++
		if back, e := words.Split(line); e != api.OK || !same(back, all) {
			t.Errorf("%q: by %q: %q, %d", all, line, back, int(e))
		}
	}
	if fit < 2000 {
		t.Errorf("only %d lists fit", fit)
	}
}

// P2.3: Join of Split tells the same: so it always fits.
func TestJoinOfSplit(t *testing.T) {
	check := func(line string) {
		all, e := words.Split(line)
		if e != api.OK {
			return
		}
		again, e := words.Join(all)
		if e != api.OK || len(again) > len(line) {
			t.Errorf("%q: %q: %q, %d", line, all, again, int(e))
			return
		}
		if told, e := words.Split(again); e != api.OK || !same(told, all) {
			t.Errorf("%q: %q: by %q: %q, %d", line, all, again, told, int(e))
		}
	}
	short([]string{"a", "\"", "\\x41", "#", " ", "\\\"", "\\\\", "\\n"}, 5, check)
	for _, line := range aLot() {
		check(line)
		check(" " + line + "\t\t# remark")
	}
	check(`"` + strings.Repeat(`\x41`, 99) + `"`)
	check(`"` + strings.Repeat(`\x01`, 99) + `  "`)
	check(strings.Repeat("a ", api.MaxLine/2))
}
