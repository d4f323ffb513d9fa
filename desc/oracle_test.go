package desc_test

import (
	"fmt"
	"math/rand/v2"
	"regexp"
	"slices"
	"strings"
	"testing"

	"bastion/api"
	"bastion/desc"
	"bastion/words"
)

// What the chapter says of lines, told a second time: by expressions.
const (
	nameForm    = `[a-z][a-z0-9_-]{0,23}`
	partForm    = `(?:[A-Za-z0-9_.-]*[A-Za-z0-9_-][A-Za-z0-9_.-]*|\.{3,})`
	wordForm    = `[!-~]{1,64}`
	anyWordForm = `[!-~\x01]*`
)

var (
	aName     = regexp.MustCompile(`\A` + nameForm + `\z`)
	partsForm = regexp.MustCompile(`\A` + partForm + `(?:/` + partForm + `)*\z`)
)

func isName(s string) bool { return aName.MatchString(s) }

func isPath(s string) bool { return len(s) <= 48 && partsForm.MatchString(s) }

// asked is what a word asks: where it stands (h: in the head, t: in a template, u: first in a job, j: later in one), and the forms that what stands behind it must have, each of which fails with its error: the count, names, other texts, numbers. In a form A is any word, N a name, W a word without blanks, P what is no longer than a path, Q a path.
type asked struct{ word, where, count, names, texts, numbers string }

var askedOf = []asked{
	{"template", "htuj", " A", " N", "", ""},
	{"job", "htuj", " A", " N", "", ""},
	{"include", "h", " A", "", " Q", ""},
	{"on", "h", "( A)+", "", "( W)+", ""},
	{"paths", "h", "( A)+", "", "( W)+", ""},
	{"var", "htuj", " A A", " N A", "", ""},
	{"use", "u", " A", " N", "", ""},
	{"needs", "tuj", "( A)+", "( N)+", "", ""},
	{"tags", "tuj", "( A)+", "( N)+", "", ""},
	{"axis", "tuj", " A( A)+", " N( A)+", " N( W)+", ""},
	{"when", "tuj", "( A)+", "", "", ""},
	{"do", "tuj", "( A)+", "", "", ""},
	{"tries", "tuj", " A", "", "", " [1-5]"},
	{"limit", "tuj", " A", "", "", " ([1-9][0-9]{0,2}|1000)"},
	{"manual", "tuj", "", "", "", ""},
	{"keep", "tuj", "( A)+", "", "( W)+", ""},
}

// formed are expressions of the forms, made once each.
var formed = map[string]*regexp.Regexp{}

func fits(form, s string) bool {
	if formed[form] == nil {
		long := strings.NewReplacer("A", anyWordForm, "N", nameForm, "W", wordForm, "Q", partForm+"(?:/"+partForm+")*").Replace(form)
		formed[form] = regexp.MustCompile(`\A` + long + `\z`)
	}
	return formed[form].MatchString(s)
}

// behind is what stands behind a line's first word, with a byte 01 for each one that is not from 21 to 7E.
func behind(line []string) string {
	var to strings.Builder
	for _, word := range line[1:] {
		to.WriteString(" ")
		for _, c := range []byte(word) {
			to.WriteByte(map[bool]byte{true: c, false: 1}[c >= 0x21 && c <= 0x7e])
		}
	}
	return to.String()
}

// wrongIn tells what is wrong in a line of words, at such a place.
func wrongIn(where string, line []string) api.Errno {
	for _, a := range askedOf {
		if a.word != line[0] || !strings.Contains(a.where, where) {
			continue
		}
		rest := behind(line)
		switch {
		case !fits(a.count, rest):
			return api.ErrForm
		case a.names != "" && !fits(a.names, rest):
			return api.ErrName
		case a.texts != "" && !fits(a.texts, rest), a.word == "include" && len(rest) > 49:
			return api.ErrForm
		case a.numbers != "" && !fits(a.numbers, rest):
			return api.ErrArg
		}
		return api.OK
	}
	return api.ErrForm
}

func begins(line []string) bool { return line[0] == "template" || line[0] == "job" }

// sectionOf are those of the lines that stand in the section that is open at their end, its own line with them; of the head, all of them.
func sectionOf(lines [][]string) [][]string {
	for at := len(lines) - 1; at >= 0; at-- {
		if begins(lines[at]) {
			return lines[at:]
		}
	}
	return lines
}

func whereBehind(lines [][]string) string {
	s := sectionOf(lines)
	switch {
	case len(s) == 0 || !begins(s[0]):
		return "h"
	case s[0][0] == "template":
		return "t"
	case len(s) == 1:
		return "u"
	}
	return "j"
}

// wrongAt tells what is wrong at a line of words behind lines that are right.
func wrongAt(ahead [][]string, line []string) api.Errno {
	if e := wrongIn(whereBehind(ahead), line); e != api.OK {
		return e
	}
	near, most, twice := sectionOf(ahead), 40, 0
	switch line[0] {
	case "template", "job":
		near = slices.DeleteFunc(slices.Clone(ahead), func(l []string) bool { return l[0] != line[0] })
		most, twice = 24, 2
	case "axis":
		twice = 2
	case "when", "tries", "limit", "manual":
		twice = 1
	}
	if twice > 0 && slices.ContainsFunc(near, func(l []string) bool { return len(l) >= twice && slices.Equal(l[:twice], line[:twice]) }) {
		return api.ErrTwice
	}
	if most == 40 && len(near) > 0 && begins(near[0]) {
		near = near[1:]
	}
	if len(near) == most {
		return api.ErrFull
	}
	return api.OK
}

// parsed is what Parse must answer of a text.
func parsed(text string) (desc.Doc, int, api.Errno) {
	var d desc.Doc
	var lines [][]string
	for i, l := range strings.Split(text, "\n") {
		line, e := words.Split(l)
		if e == api.OK && len(line) == 0 {
			continue
		}
		if e == api.OK {
			e = wrongAt(lines, line)
		}
		if e != api.OK {
			return desc.Doc{}, i + 1, e
		}
		lines = append(lines, line)
		item := desc.Item{No: i + 1, Word: line[0], Args: line[1:]}
		switch last := len(d.Sections) - 1; {
		case begins(line):
			d.Sections = append(d.Sections, desc.Section{No: i + 1, Kind: kinds[line[0]], Name: line[1]})
		case last < 0:
			d.Head = append(d.Head, item)
		default:
			d.Sections[last].Items = append(d.Sections[last].Items, item)
		}
	}
	return d, 0, api.OK
}

var kinds = map[string]uint8{"template": desc.Template, "job": desc.Job}

// printed is what Print must answer of a description.
func printed(d desc.Doc) (string, api.Errno) {
	var lines [][]string
	var text strings.Builder
	add := func(indent string, line []string, isItem bool) api.Errno {
		l, e := words.Join(line)
		if e != api.OK || len(indent+l) > 400 {
			return api.ErrTooLarge
		}
		if isItem && begins(line) {
			return api.ErrForm
		}
		if e := wrongAt(lines, line); e != api.OK {
			return e
		}
		lines = append(lines, line)
		text.WriteString(indent + l + "\n")
		return api.OK
	}
	for _, item := range d.Head {
		if e := add("", slices.Concat([]string{item.Word}, item.Args), true); e != api.OK {
			return "", e
		}
	}
	for _, s := range d.Sections {
		word := map[uint8]string{1: "template", 2: "job"}[s.Kind]
		if word == "" {
			return "", api.ErrArg
		}
		if e := add("", []string{word, s.Name}, false); e != api.OK {
			return "", e
		}
		for _, item := range s.Items {
			if e := add("  ", slices.Concat([]string{item.Word}, item.Args), true); e != api.OK {
				return "", e
			}
		}
	}
	return text.String(), api.OK
}

// same tells whether two descriptions are the same, numbers of lines too.
func same(a, b desc.Doc) bool {
	return sameItems(a.Head, b.Head) && slices.EqualFunc(a.Sections, b.Sections, func(a, b desc.Section) bool {
		return a.No == b.No && a.Kind == b.Kind && a.Name == b.Name && sameItems(a.Items, b.Items)
	})
}

func sameItems(a, b []desc.Item) bool {
	return slices.EqualFunc(a, b, func(a, b desc.Item) bool {
		return a.No == b.No && a.Word == b.Word && slices.Equal(a.Args, b.Args)
	})
}

// numbered is a copy of a description whose lines have the numbers that no tells, one by one.
func numbered(d desc.Doc, no func() int) desc.Doc {
	items := func(l []desc.Item) []desc.Item {
		l = slices.Clone(l)
		for i := range l {
			l[i].No = no()
			l[i].Args = slices.Clone(l[i].Args)
		}
		return l
	}
	d.Head = items(d.Head)
	d.Sections = slices.Clone(d.Sections)
	for i := range d.Sections {
		d.Sections[i].No = no()
		d.Sections[i].Items = items(d.Sections[i].Items)
	}
	return d
}

// rising are numbers from 1 on.
func rising() func() int {
	n := 0
	return func() int { n++; return n }
}

// short is a description as a text that is not too long to be read.
func short(d desc.Doc) string {
	s := fmt.Sprintf("%+q", fmt.Sprint(d))
	return s[:min(len(s), 500)]
}

// check tells where Parse answers of a text something else than it must.
func check(t *testing.T, text string, want desc.Doc, wantNo int, wantErr api.Errno) {
	t.Helper()
	if d, no, e := desc.Parse(text); no != wantNo || e != wantErr || !same(d, want) {
		t.Errorf("Parse(%.500q): %s, %d, %d; want %s, %d, %d", text, short(d), no, int(e), short(want), wantNo, int(wantErr))
	}
}

// checkWrong is check of a text that is wrong at a line.
func checkWrong(t *testing.T, text string, no int, e api.Errno) {
	t.Helper()
	check(t, text, desc.Doc{}, no, e)
	if d, toldNo, toldErr := parsed(text); toldNo != no || toldErr != e {
		t.Errorf("of %.500q the second telling says %s, %d, %d", text, short(d), toldNo, int(toldErr))
	}
}

// checkRight is check of a text that is right, and answers its description.
func checkRight(t *testing.T, text string) desc.Doc {
	t.Helper()
	want, no, e := parsed(text)
	if e != api.OK {
		t.Errorf("of %.500q the second telling says %d, %d", text, no, int(e))
	}
	check(t, text, want, 0, api.OK)
	return want
}

// checkPrint tells where Print answers of a description something else than it must, or changes it.
func checkPrint(t *testing.T, d desc.Doc, want string, wantErr api.Errno) {
	t.Helper()
	given := numbered(d, func() int { return 0 })
	if text, e := desc.Print(d); text != want || e != wantErr {
		t.Errorf("Print(%s): %.500q, %d; want %.500q, %d", short(d), text, int(e), want, int(wantErr))
	}
	if !same(numbered(d, func() int { return 0 }), given) {
		t.Errorf("what was handed in is changed: %s; it was %s", short(d), short(given))
	}
}

// checkNoPrint is checkPrint of a description that can't be printed.
func checkNoPrint(t *testing.T, d desc.Doc, e api.Errno) {
	t.Helper()
	checkPrint(t, d, "", e)
	if _, toldErr := printed(d); toldErr != e {
		t.Errorf("of %s the second telling says %d", short(d), int(toldErr))
	}
}

func oneOf[T any](r *rand.Rand, l []T) T { return l[r.IntN(len(l))] }

// rightLines are lines, each of which is right somewhere.
var rightLines = []string{
	"template a", "template b", "template c", "job a", "job b", "job c", "job a-9_", "include lib", "include a/B.c", "include ..x/-_",
	"on main", "on v* **", "paths src/** doc", "var v 1", `var v ""`, `var w "a b"`, "var v $w${v}",
	"use a", "use zz", "needs a", "needs a b a", "tags big", "tags b a", "axis os x y", "axis os x", "axis n 1 $x \\", "axis n-2 x x",
	"when $os == x", `when ""`, "when not ( a ~ ** )", "do say hi", `do write out "a\nb"`, "do exit 0", "do job a", `do "\xff" "#"`,
	"tries 1", "tries 5", "limit 1", "limit 999", "limit 1000", "manual", "keep out", "keep **.o a/* ?",
}

// someWords are words that are put into lines.
var someWords = []string{
	"a", "os", strings.Repeat("n", 24), strings.Repeat("n", 25), "A", "9", "a.b", "src/*.go", "../x", "a//b", strings.Repeat("p", 48), strings.Repeat("p", 49), "",
	"a b", "\xff", "\n", "#", "$x", "0", "1", "5", "6", "01", "-1", "1000", "1001", "+1", strings.Repeat("w", 64), strings.Repeat("w", 65), "job", "template", "use", "else", "Job",
}

// drawnLine is a line of words, mostly one that is right somewhere.
func drawnLine(r *rand.Rand) []string {
	line, e := words.Split(oneOf(r, rightLines))
	if e != api.OK {
		panic("no line")
	}
	at := r.IntN(len(line))
	switch r.IntN(40) {
	case 0:
		line[at] = oneOf(r, someWords)
	case 1:
		line = slices.Insert(line, at, oneOf(r, someWords))
	case 2:
		line = append(line, oneOf(r, someWords))
	case 3:
		if len(line) > 1 {
			line = slices.Delete(line, at, at+1)
		}
	}
	return line
}

// drawnLines are lines, most of them such as may stand there.
func drawnLines(r *rand.Rand, most int) [][]string {
	var lines [][]string
	for range r.IntN(most) {
		line := drawnLine(r)
		for range 40 {
			if wrongAt(lines, line) == api.OK || r.IntN(60) == 0 {
				break
			}
			line = drawnLine(r)
		}
		lines = append(lines, line)
	}
	return lines
}

// quoted is a line of the words with blanks, quotes and a remark here and there.
func quoted(r *rand.Rand, line []string) string {
	var to strings.Builder
	for i, word := range line {
		if i > 0 || r.IntN(3) == 0 {
			to.WriteString(oneOf(r, []string{" ", "  ", "\t"}))
		}
		form, _ := words.Join([]string{word})
		if form == word && r.IntN(10) == 0 {
			form = `"` + strings.ReplaceAll(word, `\`, `\\`) + `"`
		}
		to.WriteString(form)
	}
	if r.IntN(6) == 0 {
		to.WriteString(oneOf(r, []string{" # a remark", " ", " #\""}))
	}
	return to.String()
}

// drawnText is a text of lines, with lines of no words between.
func drawnText(r *rand.Rand, lines [][]string) string {
	var all []string
	for _, line := range lines {
		for r.IntN(6) == 0 {
			all = append(all, oneOf(r, []string{"", " ", "# job a", "\t#"}))
		}
		all = append(all, quoted(r, line))
	}
	text := strings.Join(all, "\n")
	if r.IntN(2) == 0 {
		text += "\n"
	}
	return text
}

// docOf is a description of lines, whatever they are: those that begin with a section's word, and have one word behind it, begin one.
func docOf(r *rand.Rand, lines [][]string) desc.Doc {
	var d desc.Doc
	for _, line := range lines {
		item := desc.Item{No: r.IntN(100) - 50, Word: line[0], Args: line[1:]}
		switch last := len(d.Sections) - 1; {
		case begins(line) && len(line) == 2 && r.IntN(60) > 0:
			kind := kinds[line[0]]
			if r.IntN(60) == 0 {
				kind = uint8(r.IntN(256))
			}
			d.Sections = append(d.Sections, desc.Section{No: r.IntN(100) - 50, Kind: kind, Name: line[1]})
		case last < 0:
			d.Head = append(d.Head, item)
		default:
			d.Sections[last].Items = append(d.Sections[last].Items, item)
		}
	}
	return d
}
