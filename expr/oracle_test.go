package expr_test

import (
	"math/rand/v2"
	"regexp"
	"slices"
	"strings"
	"testing"

	"bastion/api"
	"bastion/expr"
	"bastion/glob"
)

// told is what the chapter says of a row of words.
type told struct {
	holds bool
	texts []string
	e     api.Errno
}

// scan goes over a row once, and keeps a mark for each thing it meets: T or F for a comparison, ! for a not, & and | for and and or, brackets for themselves.
type scan struct {
	marks  strings.Builder
	texts  []string
	around []string // what is open, the innermost at the end: nots and brackets
}

// tell is what Parse, Eval and Texts must come to, told a second time: by a scan of marks, which are rewritten till one is left.
func tell(words []string) told {
	var s scan
	wantsTerm := true
	for at := 0; at < len(words); {
		size, e := 0, api.OK
		if wantsTerm {
			size, e = s.term(words[at:])
			wantsTerm = size == 1
		} else {
			size = 1
			wantsTerm, e = s.joint(words[at])
		}
		if e != api.OK {
			return told{e: e}
		}
		at += size
	}
	if wantsTerm || len(s.around) > 0 {
		return told{e: api.ErrForm}
	}
	return told{holds: rewritten(s.marks.String()), texts: s.texts}
}

// term takes what begins a term: three words, or one.
func (s *scan) term(words []string) (int, api.Errno) {
	if len(words) >= 3 && slices.Contains([]string{"==", "!=", "~"}, words[1]) {
		s.compare(words[0], words[1], words[2])
		s.closeNots()
		return 3, api.OK
	}
	mark, is := map[string]string{"not": "!", "(": "("}[words[0]]
	if !is {
		return 0, api.ErrForm
	}
	if len(s.around) == 64 {
		return 0, api.ErrDeep
	}
	s.around = append(s.around, mark)
	s.marks.WriteString(mark)
	return 1, api.OK
}

func (s *scan) compare(a, by, b string) {
	holds := map[string]bool{"==": a == b, "!=": a != b, "~": glob.Match(b, a)}[by]
	s.marks.WriteString(map[bool]string{true: "T", false: "F"}[holds])
	s.texts = append(s.texts, a, b)
}

// closeNots ends the nots that the end of a term ends.
func (s *scan) closeNots() {
	for len(s.around) > 0 && s.around[len(s.around)-1] == "!" {
		s.around = s.around[:len(s.around)-1]
	}
}

// joint takes a word behind a term, and tells whether a term is wanted behind it.
func (s *scan) joint(word string) (bool, api.Errno) {
	switch word {
	case "and":
		s.marks.WriteString("&")
		return true, api.OK
	case "or":
		s.marks.WriteString("|")
		return true, api.OK
	case ")":
		if len(s.around) == 0 {
			return false, api.ErrForm
		}
		s.around = s.around[:len(s.around)-1]
		s.closeNots()
		s.marks.WriteString(")")
		return false, api.OK
	}
	return false, api.ErrForm
}

// The rules by which marks are rewritten; the first one that fits anywhere goes ahead of all others.
var rules = []struct {
	form *regexp.Regexp
	to   string
}{
	{regexp.MustCompile(`!T|\(F\)`), "F"},
	{regexp.MustCompile(`!F|\(T\)`), "T"},
	{regexp.MustCompile(`T&T`), "T"},
	{regexp.MustCompile(`[TF]&[TF]`), "F"},
	{regexp.MustCompile(`(^|[(|])F\|F($|[)|])`), "${1}F$2"},
	{regexp.MustCompile(`(^|[(|])[TF]\|[TF]($|[)|])`), "${1}T$2"},
}

func rewritten(marks string) bool {
	for marks != "T" && marks != "F" {
		next := marks
		for _, rule := range rules {
			next = rule.form.ReplaceAllString(marks, rule.to)
			if next != marks {
				break
			}
		}
		if next == marks {
			panic("no rule for " + marks)
		}
		marks = next
	}
	return marks == "T"
}

// check tells where a call answers of a row something else than it must.
func check(t *testing.T, words []string, want told) {
	t.Helper()
	given := slices.Clone(words)
	holds, e := expr.Value(words)
	if holds != want.holds || e != want.e {
		t.Errorf("Value(%.90q): %v, %d; want %v, %d", words, holds, int(e), want.holds, int(want.e))
	}
	x, e := expr.Parse(words)
	if e != want.e || (x == nil) != (e != api.OK) {
		t.Errorf("Parse(%.90q): %v, %d; want %d", words, x != nil, int(e), int(want.e))
	}
	if x.Eval() != want.holds {
		t.Errorf("Eval of %.90q: %v", words, !want.holds)
	}
	if got := x.Texts(); !slices.Equal(got, want.texts) {
		t.Errorf("Texts of %.90q: %.90q; want %.90q", words, got, want.texts)
	}
	if got := x.Words(); e == api.OK && !slices.Equal(got, given) || e != api.OK && len(got) > 0 {
		t.Errorf("Words of %.90q: %.90q", words, got)
	}
	if !slices.Equal(words, given) {
		t.Errorf("what was handed in is changed: %.90q; it was %.90q", words, given)
	}
}

// checkLine is check of the words between blanks.
func checkLine(t *testing.T, line string, want told) {
	t.Helper()
	check(t, strings.Fields(line), want)
}

// rows tells all rows of at most n of these words.
func rows(words []string, n int, tell func(row []string)) {
	var grow func(row []string)
	grow = func(row []string) {
		tell(row)
		if len(row) == n {
			return
		}
		for _, word := range words {
			grow(append(row, word))
		}
	}
	grow(make([]string, 0, n))
}

// someTexts are texts that comparisons are drawn of: the chapter's own words, patterns, and what is no pattern.
var someTexts = []string{"a", "b", "ab", "a/b", "*", "**", "?", "a*", "", "a b", "\xff", "or", "and", "not", "(", ")", "==", "!=", "~"}

// plainTexts are those of them that are no operators.
var plainTexts = someTexts[:len(someTexts)-3]

func oneOf(r *rand.Rand, words []string) string { return words[r.IntN(len(words))] }

// drawnComparison is a comparison of texts drawn at random; its first one is no operator.
func drawnComparison(r *rand.Rand) []string {
	return []string{oneOf(r, plainTexts), oneOf(r, []string{"==", "!=", "~"}), oneOf(r, someTexts)}
}

// drawn is a condition that goes deep down to that many.
func drawn(r *rand.Rand, deep int) []string {
	row := drawnTerm(r, deep)
	for r.IntN(5) < 2 {
		row = append(append(row, oneOf(r, []string{"and", "or"})), drawnTerm(r, deep)...)
	}
	return row
}

func drawnTerm(r *rand.Rand, deep int) []string {
	if deep == 0 {
		return drawnComparison(r)
	}
	switch r.IntN(4) {
	case 0:
		return append([]string{"not"}, drawnTerm(r, deep-1)...)
	case 1, 2:
		return bracketed(drawn(r, deep-1))
	}
	return drawnComparison(r)
}

// bracketed is a row in brackets.
func bracketed(row []string) []string { return joined("(", row, ")") }

// joined is one row of words and rows.
func joined(all ...any) []string {
	var row []string
	for _, one := range all {
		switch one := one.(type) {
		case string:
			row = append(row, one)
		case []string:
			row = append(row, one...)
		}
	}
	return row
}

// changed is a row with a word of it gone, doubled, put in or made another one.
func changed(r *rand.Rand, row []string) []string {
	row = slices.Clone(row)
	at := r.IntN(len(row))
	switch r.IntN(4) {
	case 0:
		return slices.Delete(row, at, at+1)
	case 1:
		return slices.Insert(row, at, row[at])
	case 2:
		return slices.Insert(row, at, oneOf(r, someTexts))
	}
	row[at] = oneOf(r, someTexts)
	return row
}
