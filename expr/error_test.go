package expr_test

import (
	"slices"
	"strings"
	"testing"

	"bastion/api"
	"bastion/expr"
)

// The table of errors, example 2: a word that can't stand there, or none where one must.
func TestErrForm(t *testing.T) {
	check(t, nil, told{e: api.ErrForm})
	check(t, []string{}, told{e: api.ErrForm})
	check(t, []string{""}, told{e: api.ErrForm})
	check(t, []string{"a == a"}, told{e: api.ErrForm})
	check(t, []string{"a", "==", "a", ""}, told{e: api.ErrForm})
	check(t, []string{"a", "== ", "a"}, told{e: api.ErrForm})
	for _, line := range []string{
		"a", "a ==", "a == b c", "( a == a", "a == a )", "and",

		"or", "not", "(", ")", "==", "( )", "not not", "not )", "not a", "( a )", "not ( )", "== a",
		"a == a and", "a == a or", "and a == a", "or a == a", "a == a and or a == a", "a == a and and a == a", "a == a or or a == a",
		"a == a a == a", "a == a not a == a", "a == a ( a == a )", "( a == a ) ( a == a )", "( a == a ) a == a",
		"a == a not", "a == a (", "( a == a ) )", "( ( a == a )", "( a == a and )", "( a == a or )", "( a == a b )", "not ( a == a",
		"a = a", "a === a", "a < b", "a !~ a", "a eq a", "a && a", "! a == a", "a == a && a == a", "a == a || a == a",
		"a == a AND a == a", "a == a Or a == a", "NOT a == a", "(a == a and a == a) )", "[ a == a ]", "a == a == a", "a ~ b ~ c",
		"( a ==", "( a == )", "not a ==", "a == a and a", "a == a and a ==", "a b == c", "not not == not not",
		// A comparison is looked for first: what is left does not stand as it must.
		"( == a )", "( == == a )", "not ~ == b", "( ~ a == a )", "not == a == a",
	} {
		checkLine(t, line, told{e: api.ErrForm})
	}
}

// nested is a row: its words ahead, a comparison that does not hold, and the brackets closed.
func nested(ahead ...string) []string {
	return joined(ahead, []string{"a", "==", "b"}, slices.Repeat([]string{")"}, count(ahead, "(")))
}

func count(words []string, word string) int {
	n := 0
	for _, one := range words {
		if one == word {
			n++
		}
	}
	return n
}

// The table of errors: a not, or a (, within MaxDepth others, and within one less.
func TestErrDeep(t *testing.T) {
	if expr.MaxDepth != 64 {
		t.Errorf("MaxDepth: %d", expr.MaxDepth)
	}
	for _, pattern := range [][]string{{"not"}, {"("}, {"not", "("}, {"(", "not"}, {"(", "(", "not"}, {"not", "not", "("}} {
		most := slices.Repeat(pattern, 64)[:64]
		check(t, nested(most...), told{holds: count(most, "not")%2 == 1, texts: []string{"a", "b"}})
		for _, more := range []string{"not", "("} {
			check(t, nested(append(slices.Clone(most), more)...), told{e: api.ErrDeep})
			check(t, joined(most, more), told{e: api.ErrDeep})
			// A text of a comparison is neither.
			row := joined(most, []string{more, "!=", "not"}, slices.Repeat([]string{")"}, count(most, "(")))
			check(t, row, tell(row))
			if e := tell(row).e; e != api.OK {
				t.Errorf("%q is no condition", row)
			}
		}
		check(t, nested(slices.Repeat(pattern, 1000)...), told{e: api.ErrDeep})
	}
}

// What has ended is around nothing any more: depths are not summed up.
func TestDepthOfEach(t *testing.T) {
	brackets := nested(slices.Repeat([]string{"("}, 64)...)
	nots := nested(slices.Repeat([]string{"not"}, 64)...)
	mixed := nested(slices.Repeat([]string{"not", "("}, 32)...)
	for _, between := range []string{"and", "or"} {
		row := joined(brackets, between, nots, between, mixed, between, brackets, between, mixed, between, nots)
		check(t, row, tell(row))
		check(t, row, told{texts: slices.Repeat([]string{"a", "b"}, 6)})
		for _, more := range []string{"not", "("} {
			check(t, joined(more, nots, between, brackets), told{e: api.ErrDeep})
			check(t, joined(row, between, more, mixed), told{e: api.ErrDeep})
		}
		// Around all of it stands one bracket more.
		check(t, bracketed(joined("a", "==", "a", between, brackets)), told{e: api.ErrDeep})
		check(t, bracketed(joined(nots, between, "a", "==", "a")), told{e: api.ErrDeep})
	}
	// Nots, and a bracket, end with the term they are ahead of.
	first := slices.Repeat([]string{"(", "not", "not"}, 21)
	row := joined(first, "a", "==", "a", slices.Repeat([]string{")", "and", "not", "not", "(", "a", "==", "b", ")"}, 21))
	row = joined(row, "and", nots, "or", brackets)
	want := tell(row)
	if want.e != api.OK {
		t.Fatalf("the row is no condition: %d", int(want.e))
	}
	check(t, row, want)
}

// The table of errors: from the left, so that the first of two faults is answered.
func TestFirstFault(t *testing.T) {
	deep := slices.Repeat([]string{"not"}, 65)
	for _, c := range []struct {
		row []string
		e   api.Errno
	}{
		{joined(deep), api.ErrDeep},
		{joined(deep, ")"), api.ErrDeep},
		{joined(deep, "a", "==", "a", ")"), api.ErrDeep},
		{joined("a", "==", "a", "or", deep, "and"), api.ErrDeep},
		{joined("[", deep), api.ErrForm},
		{joined("a", deep), api.ErrForm},
		{joined("and", deep, "a", "==", "a"), api.ErrForm},
		{joined("a", "==", "a", "or", "or", deep), api.ErrForm},
		{joined("a", "==", "a", deep, "a", "==", "a"), api.ErrForm},
		{joined("a", "==", "a", ")", deep, "a", "==", "a"), api.ErrForm},
		{joined("(", ")", "or", deep, "a", "==", "a"), api.ErrForm},
		// A not, or a (, where none can stand, is none that is within others.
		{joined(slices.Repeat([]string{"("}, 64), "a", "==", "a", "not"), api.ErrForm},
		{joined(slices.Repeat([]string{"("}, 64), "a", "==", "a", "(", "a"), api.ErrForm},
		{joined(slices.Repeat([]string{"("}, 64), "a", "and", "("), api.ErrForm},
		{joined(slices.Repeat([]string{"("}, 64), "a", "==", "a", "and", "("), api.ErrDeep},
		{joined(slices.Repeat([]string{"("}, 64), "a", "==", "a", "or", "not"), api.ErrDeep},
	} {
		check(t, c.row, told{e: c.e})
		if e := tell(c.row).e; e != c.e {
			t.Errorf("%q: the second telling says %d", c.row, int(e))
		}
	}
	// Each row with less than all its words, and with a wrong one at each place.
	row := strings.Fields("not ( a == a or not not b ~ * ) and ( not == not or ( c != d and e == e ) )")
	for at := range len(row) + 1 {
		check(t, row[:at], tell(row[:at]))
		for _, word := range []string{"x", "(", ")", "not", "and", "or", "==", ""} {
			more := slices.Insert(slices.Clone(row), at, word)
			check(t, more, tell(more))
			check(t, joined(more[:at+1], deep), tell(joined(more[:at+1], deep)))
		}
	}
}
