package glob_test

import (
	"math/rand/v2"
	"slices"
	"strings"
	"testing"

	"bastion/glob"
)

// P10.2: those that one of them matches, in order, as often as they stand there.
func TestPick(t *testing.T) {
	for _, c := range []struct{ patterns, l, want []string }{
		{nil, nil, nil},
		{[]string{}, []string{}, nil},
		{nil, []string{"a", ""}, nil},
		{[]string{"**"}, nil, nil},
		{[]string{"**"}, []string{"b", "", "a", "b"}, []string{"b", "", "a", "b"}},
		{[]string{"a*", "**/c"}, []string{"ab", "b", "a/", "x/c"}, []string{"ab", "x/c"}},
		{[]string{"**/c", "a*"}, []string{"ab", "b", "a/", "x/c"}, []string{"ab", "x/c"}},
		{[]string{"b", "a"}, []string{"a", "b", "c", "a", "b"}, []string{"a", "b", "a", "b"}},
		{[]string{"a", "a", "*"}, []string{"a", "b", "/"}, []string{"a", "b"}},
		{[]string{"c"}, []string{"a", "b"}, nil},
		{[]string{"*"}, []string{"", "\xff\n", "a/b"}, []string{"", "\xff\n"}},
		// What is no pattern matches none, and is in the way of no other one.
		{[]string{"", "a b", strings.Repeat("a", 65)}, []string{"", "a b", strings.Repeat("a", 65)}, nil},
		{[]string{"", "b", "a b"}, []string{"", "a b", "b"}, []string{"b"}},
		{[]string{strings.Repeat("*", 65), "?"}, []string{"ab", "b"}, []string{"b"}},
	} {
		checkPick(t, c.patterns, c.l, c.want)
	}
	for _, s := range []string{"", "a", "**"} {
		if glob.Any(nil, s) || glob.Any([]string{}, s) {
			t.Errorf("Any of none, %q", s)
		}
	}
	if !glob.Any([]string{"", "x", "a?"}, "ab") || glob.Any([]string{"x", "a?"}, "a") {
		t.Error("Any is not whether one of them matches")
	}
}

// P10.2: lists drawn at random.
func TestPickDrawn(t *testing.T) {
	r := rand.New(rand.NewPCG(10, 2))
	for range 4000 {
		patterns := drawnList(r, patternMarks, 5, 4)
		l := drawnList(r, textMarks, 12, 4)
		if len(l) > 0 {
			l = append(l, l[r.IntN(len(l))])
		}
		checkPick(t, patterns, l, pickTold(patterns, l))
	}
}

// P10.2 with R3: what is handed in is not changed, nor read behind its end, nor kept; what is handed out is apart.
func TestPickApart(t *testing.T) {
	patterns := []string{"a*", "b", "**"}
	l := []string{"ab", "c", "b", "d", "ax"}
	want := []string{"ab", "b"}
	first := glob.Pick(patterns[:2], l[:4])
	second := glob.Pick(patterns[:2], l[:4])
	if !slices.Equal(first, want) || !slices.Equal(second, want) {
		t.Fatalf("Pick: %q, %q", first, second)
	}
	if glob.Any(patterns[:2], "c") {
		t.Error("Any reads patterns behind the end")
	}
	all := first[:cap(first)]
	for i := range all {
		all[i] = "written"
	}
	if !slices.Equal(second, want) || !slices.Equal(glob.Pick(patterns[:2], l[:4]), want) {
		t.Errorf("another answer shows what was written: %q", second)
	}
	if !slices.Equal(patterns, []string{"a*", "b", "**"}) || !slices.Equal(l, []string{"ab", "c", "b", "d", "ax"}) {
		t.Errorf("what was handed in is changed: %q, %q", patterns, l)
	}
	l[0], patterns[0] = "written", "**"
	if !slices.Equal(second, want) {
		t.Errorf("an answer shows what was handed in: %q", second)
	}
}

// P10.2 with R3: of texts that are all picked, too, the list is another one.
func TestPickAll(t *testing.T) {
	l := []string{"a", "b", "c"}
	got := glob.Pick([]string{"**"}, l)
	got[0] = "written"
	_ = append(got, "behind")
	if !slices.Equal(l, []string{"a", "b", "c"}) {
		t.Errorf("what was handed in shows what was written: %q", l)
	}
}
