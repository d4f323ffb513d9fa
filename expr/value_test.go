package expr_test

import (
	"math/rand/v2"
	"slices"
	"strings"
	"testing"

	"bastion/api"
	"bastion/expr"
)

// P11.1, P11.2, example 1, and what is like it.
func TestConditions(t *testing.T) {
	for _, c := range []struct {
		line  string
		holds bool
		texts string
	}{
		{"a == a", true, "a a"},
		{"a == b or a ~ *", true, "a b a *"},
		{"not a == b and x ~ y*", false, "a b x y*"},
		{"( a == a )", true, "a a"},
		{"not == not", true, "not not"},
		{"not not a == a", true, "a a"},

		{"a == b", false, "a b"},
		{"a != b", true, "a b"},
		{"a != a", false, "a a"},
		{"A == a", false, "A a"},
		{"src/a.go ~ src/*.go", true, "src/a.go src/*.go"},
		{"src/*.go ~ src/a.go", false, "src/*.go src/a.go"},
		{"a/b ~ *", false, "a/b *"},
		{"a* == ab", false, "a* ab"},
		{"ab != a*", true, "ab a*"},
		{"not a == a", false, "a a"},
		{"not not not a == a", false, "a a"},
		{"not ( a == b )", true, "a b"},
		{"( not a == b )", true, "a b"},
		{"( ( a == b ) )", false, "a b"},

		// and binds closer than or, and not closer than both.
		{"a == a or a == b and a == b", true, "a a a b a b"},
		{"a == b and a == b or a == a", true, "a b a b a a"},
		{"( a == a or a == b ) and a == b", false, "a a a b a b"},
		{"a == b and ( a == b or a == a )", false, "a b a b a a"},
		{"not a == a or a == a", true, "a a a a"},
		{"not ( a == a or a == a )", false, "a a a a"},
		{"not a == a and a == b", false, "a a a b"},
		{"not ( a == a and a == b )", true, "a a a b"},
		{"a == a and not a == b", true, "a a a b"},
		{"a == b or not a == b", true, "a b a b"},
		{"a == b or a == b or a == a", true, "a b a b a a"},
		{"a == a and a == a and a == b", false, "a a a a a b"},

		// The chapter's words are texts where a comparison stands.
		{"( == (", true, "( ("},
		{") == )", true, ") )"},
		{"( ~ )", false, "( )"},
		{"or == or or or == or", true, "or or or or"},
		{"and != and and and == and", false, "and and and and"},
		{"== == ==", true, "== =="},
		{"~ != ==", true, "~ =="},
		{"!= ~ !=", true, "!= !="},
		{"a == ==", false, "a =="},
		{"not not == not", false, "not not"},
		{"( not == not )", true, "not not"},
		{"( ( == ( )", true, "( ("},
		{"( a == ) )", false, "a )"},
		{"(a == a)", false, "(a a)"},
		{"not ( ( == a )", true, "( a"},
		{"a ~ not", false, "a not"},
		{"a == a or == == ==", true, "a a == =="},
	} {
		checkLine(t, c.line, told{holds: c.holds, texts: strings.Fields(c.texts)})
	}
}

// P11.1: any texts may be compared; what is no pattern matches none.
func TestAnyTexts(t *testing.T) {
	long := strings.Repeat("a", api.MaxWord)
	for _, c := range []struct {
		row   []string
		holds bool
	}{
		{[]string{"", "==", ""}, true},
		{[]string{"", "!=", ""}, false},
		{[]string{"", "==", "a"}, false},
		{[]string{"", "~", ""}, false},
		{[]string{"", "~", "*"}, true},
		{[]string{"a b", "==", "a b"}, true},
		{[]string{"a b", "~", "a b"}, false},
		{[]string{"a b", "~", "a?b"}, true},
		{[]string{"\xff\x00\n", "==", "\xff\x00\n"}, true},
		{[]string{"\xff", "==", "\xfe"}, false},
		{[]string{"\xff\n", "~", "??"}, true},
		{[]string{" ==", "==", " =="}, true},
		{[]string{long, "~", long}, true},
		{[]string{long + "a", "~", long + "a"}, false},
		{[]string{long + "a", "==", long + "a"}, true},
		{[]string{"a/b", "~", "**"}, true},
		{[]string{"a", "~", "**b"}, false},
	} {
		check(t, c.row, told{holds: c.holds, texts: []string{c.row[0], c.row[2]}})
	}
}

// P11.1, P11.2: all short rows, of words that mean something and others.
func TestAllShort(t *testing.T) {
	right := 0
	look := func(row []string) {
		want := tell(row)
		if want.e == api.OK {
			right++
		}
		check(t, row, want)
	}
	rows([]string{"a", "b", "==", "not", "(", ")", "and", "or"}, 5, look)
	rows([]string{"a", "==", "not", "(", ")", "and"}, 7, look)
	rows([]string{"", "~", "!=", "or", "*"}, 6, look)
	if right < 1000 {
		t.Errorf("only %d conditions", right)
	}
}

// P11.1, P11.2: conditions drawn at random, and those with some words changed.
func TestDrawn(t *testing.T) {
	r := rand.New(rand.NewPCG(11, 1))
	held, wrong := 0, 0
	for range 20000 {
		row := drawn(r, r.IntN(6))
		want := tell(row)
		if want.e != api.OK {
			t.Fatalf("%q is no condition", row)
		}
		if want.holds {
			held++
		}
		check(t, row, want)
		for range 3 {
			row = changed(r, row)
			if len(row) == 0 {
				break
			}
			want = tell(row)
			if want.e != api.OK {
				wrong++
			}
			check(t, row, want)
		}
	}
	if held < 5000 || held > 15000 || wrong < 20000 {
		t.Errorf("%d of the conditions hold, %d rows are none", held, wrong)
	}
}

// P11.1, P11.2 with R1: the longest rows end soon, and what is as long as that is no deeper.
func TestLong(t *testing.T) {
	const many = 1 << 18
	for _, c := range []struct {
		one, between, texts string
		holds               bool
	}{
		{"a == a", "and", "a a", true},
		{"a == b", "or", "a b", false},
		{"( a == a )", "and", "a a", true},
		{"not a == a", "or", "a a", false},
		{"( a == b or a == a )", "and", "a b a a", true},
	} {
		row := slices.Repeat(append(strings.Fields(c.one), c.between), many)
		check(t, row, told{e: api.ErrForm})
		check(t, row[:len(row)-1], told{holds: c.holds, texts: slices.Repeat(strings.Fields(c.texts), many)})
	}
	long := strings.Repeat("a", 1<<20)
	check(t, []string{long, "~", "**b", "or", long, "==", long}, told{holds: true, texts: []string{long, "**b", long, long}})
	for _, word := range []string{"not", "(", "a", "==", ")", "and", "or"} {
		row := slices.Repeat([]string{word}, many)
		want := tell(row)
		if holds, e := expr.Value(row); holds || e != want.e || e == api.OK {
			t.Errorf("many %s: %v, %d; want %d", word, holds, int(e), int(want.e))
		}
	}
}
