package words_test

import (
	"slices"
	"strings"
	"testing"

	"bastion/api"
	"bastion/words"
)

// linesOf is what Lines must answer of a text.
func linesOf(text string) ([]words.Line, int, api.Errno) {
	var all []words.Line
	for i, line := range strings.Split(text, "\n") {
		list, e := lineOf(line)
		if e != api.OK {
			return nil, i + 1, e
		}
		if len(list) > 0 {
			all = append(all, words.Line{No: i + 1, Words: list})
		}
	}
	return all, 0, api.OK
}

// checkLines tells where Lines answers of the text something else than it must.
func checkLines(t *testing.T, text string, want []words.Line, wantNo int, wantErr api.Errno) {
	t.Helper()
	got, no, e := words.Lines(text)
	if no != wantNo || e != wantErr || !sameLines(got, want) {
		t.Errorf("Lines(%.500q): %v, %d, %d; want %v, %d, %d", text, got, no, int(e), want, wantNo, int(wantErr))
	}
}

func sameLines(a, b []words.Line) bool {
	return slices.EqualFunc(a, b, func(a, b words.Line) bool { return a.No == b.No && same(a.Words, b.Words) })
}

// P2.2, example 3.
func TestLinesExamples(t *testing.T) {
	one := []words.Line{{1, []string{"a"}}}
	for _, c := range []struct {
		text string
		want []words.Line
	}{
		{"", nil},
		{"\n", nil},
		{"\n\n \n\t# a\n", nil},
		{"a", one},
		{"a\n", one},
		{"a\n\n\n", one},
		{"\na", []words.Line{{2, []string{"a"}}}},
		{"a\n\n b # c\n", []words.Line{{1, []string{"a"}}, {3, []string{"b"}}}},
		{"a b\n\"c d\"\ne#\n#\n\"\"", []words.Line{{1, []string{"a", "b"}}, {2, []string{"c d"}}, {3, []string{"e#"}}, {5, []string{""}}}},
		{"\"\\n\"\nb", []words.Line{{1, []string{"\n"}}, {2, []string{"b"}}}},
		{"a # \r\nb", []words.Line{{1, []string{"a"}}, {2, []string{"b"}}}},
	} {
		checkLines(t, c.text, c.want, 0, api.OK)
	}
}

// P2.2, example 3: the line at which an error is, the first of several, and nothing else.
func TestLinesErrors(t *testing.T) {
	long := strings.Repeat("a", api.MaxLine+1)
	for _, c := range []struct {
		text string
		no   int
		e    api.Errno
	}{
		{"a\n\n\"a", 3, api.ErrForm},
		{"\"a", 1, api.ErrForm},
		{"\"a\nb\"", 1, api.ErrForm},
		{"a\r\nb", 1, api.ErrForm},
		{"a\n\x01\nb\n\"", 2, api.ErrForm},
		{"a\n" + long, 2, api.ErrTooLarge},
		{"a\n" + long + "\n\"", 2, api.ErrTooLarge},
		{"a\n\"\n" + long, 2, api.ErrForm},
		{"\n\n\n" + strings.Repeat("\x01", api.MaxLine+1) + "\n", 4, api.ErrTooLarge},
		{"\n\n\n" + strings.Repeat("\x01", api.MaxLine) + "\n", 4, api.ErrForm},
		{strings.Repeat("a\n", 1000) + "\"", 1001, api.ErrForm},
	} {
		checkLines(t, c.text, nil, c.no, c.e)
	}
}

// P2.2: no line is too large but by its own bytes, however many there are; the 0A is none of them.
func TestLinesFit(t *testing.T) {
	whole := strings.Repeat("a", api.MaxLine)
	var want []words.Line
	for i := range 1000 {
		want = append(want, words.Line{No: i + 1, Words: []string{whole}})
	}
	checkLines(t, strings.Repeat(whole+"\n", 1000), want, 0, api.OK)
	checkLines(t, strings.Repeat("\n", 1<<20)+"a", []words.Line{{1<<20 + 1, []string{"a"}}}, 0, api.OK)
}

// P2.2: all short texts.
func TestLinesAllShort(t *testing.T) {
	short([]string{"a", "\n", " ", "#", "\"", "\\n", "\r"}, 5, func(text string) {
		want, no, e := linesOf(text)
		checkLines(t, text, want, no, e)
	})
}

// P2.2 with R3: no two lists of an answer share anything, their spare room neither.
func TestLinesApart(t *testing.T) {
	text := "a b c\n\nd e f\ng"
	want := []words.Line{{1, []string{"a", "b", "c"}}, {3, []string{"d", "e", "f"}}, {4, []string{"g"}}}
	for i := range want {
		first, _, _ := words.Lines(text)
		second, _, _ := words.Lines(text)
		room := first[i].Words[:cap(first[i].Words)]
		for j := range room {
			room[j] = "written"
		}
		for j := range first {
			if j != i && !same(first[j].Words, want[j].Words) {
				t.Errorf("line %d shows what was written to line %d: %q", first[j].No, first[i].No, first[j].Words)
			}
		}
		lines := first[:cap(first)]
		for j := range lines {
			lines[j] = words.Line{No: -1, Words: []string{"written"}}
		}
		if !sameLines(second, want) {
			t.Errorf("another answer shows what was written: %v", second)
		}
		checkLines(t, text, want, 0, api.OK)
	}
}

// P2.4: blanks and remarks behind lines change nothing in a text, either.
func TestLinesRemarks(t *testing.T) {
	text := "a \"b c\"\n\n\"#\"\nd#"
	want, no, e := words.Lines(text)
	if no != 0 || e != api.OK || len(want) != 3 {
		t.Fatalf("%v, %d, %d", want, no, int(e))
	}
	checkLines(t, strings.ReplaceAll(text, "\n", " # \"remark\n"), want, 0, api.OK)
	checkLines(t, "\t"+strings.ReplaceAll(text, "\n", "\t\n ")+" ", want, 0, api.OK)
}
