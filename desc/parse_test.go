package desc_test

import (
	"math/rand/v2"
	"strings"
	"testing"

	"bastion/api"
	"bastion/desc"
)

// text is a text of these lines.
func text(lines ...string) string { return strings.Join(lines, "\n") }

// P12.1, example 1.
func TestParse(t *testing.T) {
	check(t, text("var v 1", "template t", "  do say hello", "job a", "  use t", "  needs b", "job b", "  axis os x y"), desc.Doc{
		Head: []desc.Item{{1, "var", []string{"v", "1"}}},
		Sections: []desc.Section{
			{2, desc.Template, "t", []desc.Item{{3, "do", []string{"say", "hello"}}}},
			{4, desc.Job, "a", []desc.Item{{5, "use", []string{"t"}}, {6, "needs", []string{"b"}}}},
			{7, desc.Job, "b", []desc.Item{{8, "axis", []string{"os", "x", "y"}}}},
		},
	}, 0, api.OK)
	check(t, "", desc.Doc{}, 0, api.OK)
	check(t, "\n # nothing\n\n", desc.Doc{}, 0, api.OK)
	check(t, "job a", desc.Doc{Sections: []desc.Section{{No: 1, Kind: 2, Name: "a"}}}, 0, api.OK)
	check(t, "template a\njob a", desc.Doc{Sections: []desc.Section{{No: 1, Kind: 1, Name: "a"}, {No: 2, Kind: 2, Name: "a"}}}, 0, api.OK)
}

// P12.1: lines are chapter 2's: numbers count all lines, and words are what they tell, quoted or not.
func TestParseLines(t *testing.T) {
	check(t, text("", "# a remark", " \"var\"\tv \"\" # another", "", "\"jo\\x62\" \"a\"", "\tdo \"say\" \"a b\\n\\xff\" \"#\"", "", "manual#no"), desc.Doc{}, 8, api.ErrForm)
	check(t, text("", "# a remark", " \"var\"\tv \"\" # another", "", "\"jo\\x62\" \"a\"", "\tdo \"say\" \"a b\\n\\xff\" \"#\"", "", "manual #no", ""), desc.Doc{
		Head:     []desc.Item{{3, "var", []string{"v", ""}}},
		Sections: []desc.Section{{5, desc.Job, "a", []desc.Item{{6, "do", []string{"say", "a b\n\xff", "#"}}, {8, "manual", nil}}}},
	}, 0, api.OK)
}

// P12.1: how far a line is set in says nothing; a section goes on to the next one.
func TestParseIndents(t *testing.T) {
	want := desc.Doc{
		Head: []desc.Item{{1, "on", []string{"main"}}},
		Sections: []desc.Section{
			{2, desc.Job, "a", []desc.Item{{3, "do", []string{"x"}}}},
			{4, desc.Template, "t", nil},
			{5, desc.Job, "b", []desc.Item{{6, "do", []string{"y"}}}},
		},
	}
	check(t, "on main\njob a\ndo x\ntemplate t\njob b\ndo y", want, 0, api.OK)
	check(t, "  on main\n  job a\n do x\n\ttemplate t\n    job b\ndo y\n", want, 0, api.OK)
}

// The places at which a line may stand: what is ahead of it there.
var places = map[string]string{"h": "", "t": "template t\n", "tt": "template t\ndo x\n", "u": "job j\n", "j": "job j\ndo x\n"}

// P12.1: each word, where it may stand and where it may not.
func TestParsePlaces(t *testing.T) {
	const all, sections = "h t tt u j", "t tt u j"
	for line, where := range map[string]string{
		"template x": all, "job x": all, "include x": "h", "on x": "h", "paths x": "h", "var x 1": all, "use x": "u", "needs x": sections, "tags x": sections, "axis x y": sections,
		"when x": sections, "do x": sections, "tries 1": sections, "limit 1": sections, "manual": sections, "keep x": sections,
		"else": "", "Job a": "", "jobs a": "", `""`: "", "a": "", "do:": "", "template:": "",
	} {
		for place, ahead := range places {
			may := false
			for one := range strings.FieldsSeq(where) {
				may = may || one == place
			}
			if may {
				checkRight(t, ahead+line)
			} else {
				checkWrong(t, ahead+line, strings.Count(ahead, "\n")+1, api.ErrForm)
			}
		}
	}
}

// P12.1: what each word asks of its arguments, where it may stand.
func TestParseArgs(t *testing.T) {
	word64, word65 := strings.Repeat("~", 64), strings.Repeat("~", 65)
	name24, name25 := strings.Repeat("n", 24), strings.Repeat("n", 25)
	path48, path49 := strings.Repeat("P", 48), strings.Repeat("P", 49)
	for _, c := range []struct {
		where, lines string
		e            api.Errno
	}{
		{"htuj", "template x|job x|template " + name24 + "|job " + name24 + "|var x y|var x \"\"|var x \"a b\"|var x " + word65 + "|var " + name24 + " \"\\xff\"", api.OK},
		{"htuj", "template|job|template a b|job a b|job A b|var|var x|var A|var x y z|var A y z", api.ErrForm},
		{"htuj", "template A|job A|job \"\"|template \"\"|job " + name25 + "|template 9|job \"a b\"|var A x|var \"\" x|var " + name25 + " x|var $x y", api.ErrName},
		{"h", "include x|include a/B.c|include ..x|include " + path48, api.OK},
		{"h", "include|include a b|include ../x|include \"\"|include \"a b\"|include " + path49 + "|include /a|include a/|include a*", api.ErrForm},
		{"h", "on x|on x y z|on src/*.go ** ?|on " + word64 + "|paths x|paths x y z|paths x x|paths A \\ $x|paths " + word64, api.OK},
		{"h", "on|on \"\"|on x \"\"|on \"a b\" x|on " + word65 + "|on x x " + word65 + "|paths|paths \"\"|paths x \"a\\n\"|paths \"\\x7f\"|paths " + word65, api.ErrForm},
		{"u", "use x|use " + name24, api.OK},
		{"u", "use|use a b|use A b", api.ErrForm},
		{"u", "use A|use \"\"|use " + name25 + "|use a.b", api.ErrName},
		{"tuj", "needs x|needs x y x|needs " + name24 + "|tags x|tags y x x|tags " + name24, api.OK},
		{"tuj", "needs|tags", api.ErrForm},
		{"tuj", "needs A|needs x A|needs x y \"\"|needs " + name25 + "|tags A|tags x 9 y|tags x x " + name25, api.ErrName},
		{"tuj", "axis x y|axis x y y z|axis x A 9 * \\ $v|axis x " + word64 + "|axis " + name24 + " y", api.OK},
		{"tuj", "axis|axis x|axis A|axis x \"\"|axis x y \"\"|axis x \"a b\"|axis x \"\\x7f\"|axis x \"\\x80\" y|axis x y " + word65, api.ErrForm},
		{"tuj", "axis A x|axis \"\" x|axis 9 x y|axis " + name25 + " x|axis A \"\"|axis A " + word65, api.ErrName},
		{"tuj", "when x|when a == b|when \"\"|when \"a b\" \"\\xff\"|when " + word65 + "|do x|do say a b|do \"\"|do \"a\\nb\" \"\\x00\"|do " + word65 + "|do job a|do A", api.OK},
		{"tuj", "when|do", api.ErrForm},
		{"tuj", "tries 1|tries 5|tries \"2\"|limit 1|limit 9|limit 10|limit 999|limit 1000", api.OK},
		{"tuj", "tries|tries 1 2|tries x y|limit|limit 1 2|limit 0 x|manual x|manual \"\"|manual 1 2", api.ErrForm},
		{"tuj", "tries 0|tries 6|tries -1|tries 01|tries +1|tries x|tries \"\"|tries 1.0|tries 0x1|tries 1_0|tries \" 1\"|tries \"1 \"|tries 1000|tries 9223372036854775808|tries 18446744073709551617|tries " + word65, api.ErrArg},
		{"tuj", "limit 0|limit 1001|limit -1|limit 01|limit 0001|limit +1|limit 1e2|limit x|limit \"\"|limit 1,0|limit \"1\\n\"|limit 4294967297|limit -9223372036854775809|limit 18446744073709551617|limit " + word65, api.ErrArg},
		{"tuj", "manual|keep x|keep x y|keep src/** ? \\|keep x x|keep " + word64, api.OK},
		{"tuj", "keep|keep \"\"|keep x \"\"|keep \"a b\"|keep \"\\t\" x|keep " + word65, api.ErrForm},
	} {
		for line := range strings.SplitSeq(c.lines, "|") {
			for place, ahead := range places {
				switch {
				case !strings.Contains(c.where, place[:1]):
				case c.e == api.OK:
					checkRight(t, ahead+line)
				default:
					checkWrong(t, ahead+line, strings.Count(ahead, "\n")+1, c.e)
				}
			}
		}
	}
}

// P12.1: texts drawn at random.
func TestParseDrawn(t *testing.T) {
	r := rand.New(rand.NewPCG(12, 1))
	right := 0
	for range 6000 {
		s := drawnText(r, drawnLines(r, 60))
		want, no, e := parsed(s)
		check(t, s, want, no, e)
		if e == api.OK {
			right++
		}
	}
	if right < 1000 || right > 5000 {
		t.Errorf("%d texts of 6000 are right", right)
	}
}
