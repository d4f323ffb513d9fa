package desc_test

import (
	"math/rand/v2"
	"slices"
	"strings"
	"testing"

	"bastion/api"
	"bastion/desc"
)

// item is an item of words.
func item(word string, args ...string) desc.Item { return desc.Item{Word: word, Args: args} }

// headOf is a description of a head alone, and jobOf one of a job alone.
func headOf(items ...desc.Item) desc.Doc { return desc.Doc{Head: items} }

func jobOf(items ...desc.Item) desc.Doc {
	return desc.Doc{Sections: []desc.Section{{Kind: desc.Job, Name: "j", Items: items}}}
}

// P12.2, example 1.
func TestPrint(t *testing.T) {
	const example = "var v 1\ntemplate t\n  do say hello\njob a\n  use t\n  needs b\njob b\n  axis os x y\n"
	checkPrint(t, checkRight(t, example), example, api.OK)
	checkPrint(t, checkRight(t, strings.ReplaceAll(example, "\n  ", "\n")), example, api.OK)
	checkPrint(t, desc.Doc{}, "", api.OK)
	checkPrint(t, desc.Doc{Head: []desc.Item{}, Sections: []desc.Section{}}, "", api.OK)
	checkPrint(t, desc.Doc{Sections: []desc.Section{{Kind: 1, Name: "x"}, {Kind: 2, Name: "x"}}}, "template x\njob x\n", api.OK)
}

// P12.2: words stand in their own forms, and what No says is not looked at.
func TestPrintForms(t *testing.T) {
	d := desc.Doc{
		Head: []desc.Item{{-1, "var", []string{"v", ""}}, {7, "var", []string{"v", "#"}}, {7, "on", []string{`\`, "v*"}}},
		Sections: []desc.Section{
			{-1 << 63, desc.Template, "t", []desc.Item{{0, "do", []string{"say", "a b", "\"\\\n\t\x00\xff", ""}}, {1<<63 - 1, "manual", nil}}},
			{3, desc.Job, "j", []desc.Item{{3, "use", []string{"t"}}, {3, "when", []string{"job", "==", "#x"}}, {3, "manual", []string{}}}},
		},
	}
	checkPrint(t, d, text(`var v ""`, `var v "#"`, `on \ v*`, "template t", `  do say "a b" "\"\\\n\t\x00\xff" ""`, "  manual", "job j", "  use t", `  when job == "#x"`, "  manual", ""), api.OK)
}

// The table of errors: a section's Kind goes ahead of all else in its line.
func TestPrintKind(t *testing.T) {
	for kind := range 256 {
		d := headOf(item("on", "x"))
		d.Sections = []desc.Section{{Kind: uint8(kind), Name: "a", Items: []desc.Item{item("manual")}}}
		switch uint8(kind) {
		case desc.Template:
			checkPrint(t, d, "on x\ntemplate a\n  manual\n", api.OK)
		case desc.Job:
			checkPrint(t, d, "on x\njob a\n  manual\n", api.OK)
		default:
			checkNoPrint(t, d, api.ErrArg)
			for _, name := range []string{"", "A", strings.Repeat("a", 401)} {
				d.Sections[0].Name = name
				checkNoPrint(t, d, api.ErrArg)
			}
			d.Head[0].Args[0] = ""
			checkNoPrint(t, d, api.ErrForm)
		}
	}
	if desc.Template != 1 || desc.Job != 2 {
		t.Errorf("the kinds: %d, %d", desc.Template, desc.Job)
	}
	// It is told at its own line: behind what is wrong ahead of it, ahead of what is wrong behind it.
	d := jobOf(item("tries", "9"))
	d.Sections = append(d.Sections, desc.Section{Name: "a"})
	checkNoPrint(t, d, api.ErrArg)
	d.Sections[0].Items = []desc.Item{item("keep", "")}
	checkNoPrint(t, d, api.ErrForm)
	d.Sections[0].Items = []desc.Item{item("needs", "A")}
	checkNoPrint(t, d, api.ErrName)
	slices.Reverse(d.Sections)
	checkNoPrint(t, d, api.ErrArg)
}

// P12.2: a line of MaxLine bytes, and of one more; two blanks count with an item of a section.
func TestPrintTooLarge(t *testing.T) {
	for _, c := range []struct {
		item desc.Item
		size int // of the line, not set in
	}{
		{item("do", strings.Repeat("a", 395)), 398},
		{item("do", strings.Repeat("a", 396)), 399},
		{item("do", strings.Repeat("a", 397)), 400},
		{item("do", strings.Repeat("a", 398)), 401},
		{item("do", strings.Repeat(" ", 393)), 398},
		{item("do", strings.Repeat(" ", 394)), 399},
		{item("when", strings.Repeat("\x00", 97), "abcd"), 400},
		{item("needs", slices.Repeat([]string{"a"}, 196)...), 397},
		{item("needs", append(slices.Repeat([]string{"a"}, 195), "ab")...), 398},
		{item("needs", slices.Repeat([]string{"a"}, 197)...), 399},
		{item("needs", slices.Repeat([]string{"a"}, 198)...), 401},
	} {
		l := strings.Join(c.item.Args, " ")
		if len(l) > 401 {
			t.Fatalf("%d bytes", len(l))
		}
		got, e := desc.Print(jobOf(c.item))
		want := api.OK
		if c.size > 398 {
			want = api.ErrTooLarge
		}
		if e != want || e == api.OK && len(got) != len("job j\n  \n")+c.size {
			t.Errorf("Print of a line of %d bytes: %d bytes, %d", c.size, len(got), int(e))
		}
	}
	for _, word := range []string{"on", "paths"} {
		x := strings.Repeat("x", 64)
		fits := []string{x, x, x, x, x, strings.Repeat("x", 74-len(word))}
		whole := word + " " + strings.Join(fits, " ")
		if len(whole) != 400 {
			t.Fatalf("a line of %d bytes", len(whole))
		}
		fits = []string{x, x, x, x, x, strings.Repeat("x", 73-len(word)-25), strings.Repeat("x", 25)}
		checkPrint(t, headOf(item(word, fits...)), word+" "+strings.Join(fits, " ")+"\n", api.OK)
		fits[6] += "x"
		checkNoPrint(t, headOf(item(word, fits...)), api.ErrTooLarge)
		checkNoPrint(t, headOf(item(word, append(fits, "")...)), api.ErrTooLarge)
	}
	value := strings.Repeat("v", 394)
	checkPrint(t, headOf(item("var", "a", value)), "var a "+value+"\n", api.OK)
	checkNoPrint(t, headOf(item("var", "a", value+"v")), api.ErrTooLarge)
	checkPrint(t, jobOf(item("var", "a", value[2:])), "job j\n  var a "+value[2:]+"\n", api.OK)
	checkNoPrint(t, jobOf(item("var", "a", value[1:])), api.ErrTooLarge)
	// A section's own line is not set in.
	for _, size := range []int{25, 395, 396, 397} {
		d := jobOf()
		d.Sections[0].Name = strings.Repeat("a", size)
		want := api.ErrName
		if size > 396 {
			want = api.ErrTooLarge
		}
		checkNoPrint(t, d, want)
	}
}

// The table of errors: too large goes ahead of a section's word, and that one ahead of what Parse answers.
func TestPrintOrder(t *testing.T) {
	long := strings.Repeat("x", 400)
	for _, word := range []string{"template", "job"} {
		for _, d := range []desc.Doc{headOf(item(word, "a")), headOf(item(word)), headOf(item(word, "A")), headOf(item(word, "a", "b")), jobOf(item(word, "a")), jobOf(item(word, "")), jobOf(item("do", "x"), item(word, "x"), item(word, long))} {
			checkNoPrint(t, d, api.ErrForm)
		}
		checkNoPrint(t, headOf(item(word, long)), api.ErrTooLarge)
		checkNoPrint(t, jobOf(item(word, "a", long)), api.ErrTooLarge)
		// A line of its own it is not, though it would be read as one.
		d := jobOf(item("do", "x"))
		d.Sections[0].Items = append(d.Sections[0].Items, item(word, "k"), item("use", "t"))
		checkNoPrint(t, d, api.ErrForm)
	}
	checkNoPrint(t, headOf(item("do", long)), api.ErrTooLarge)
	checkNoPrint(t, headOf(item(long)), api.ErrForm)
	checkNoPrint(t, headOf(item(long+"x")), api.ErrTooLarge)
	checkNoPrint(t, jobOf(item(long[1:])), api.ErrTooLarge)
	checkNoPrint(t, jobOf(item("manual"), item("manual", long)), api.ErrTooLarge)
	checkNoPrint(t, jobOf(item("needs", "A", long)), api.ErrTooLarge)
	checkNoPrint(t, jobOf(item("needs", "A"), item("needs", long)), api.ErrName)
}

// P12.2: what Parse refuses is refused, line by line.
func TestPrintWrong(t *testing.T) {
	for _, c := range []struct {
		d desc.Doc
		e api.Errno
	}{
		{headOf(item("")), api.ErrForm}, {headOf(item("", "a")), api.ErrForm}, {headOf(item("on x")), api.ErrForm}, {headOf(item("#", "x")), api.ErrForm}, {headOf(item("on")), api.ErrForm},
		{headOf(item("use", "t")), api.ErrForm}, {headOf(item("on", "a\nb")), api.ErrForm}, {headOf(item("include", "../x")), api.ErrForm}, {headOf(item("var", "A", "x")), api.ErrName},
		{headOf(item(" on", "x")), api.ErrForm}, {headOf(item("on\njob", "a")), api.ErrForm}, {headOf(item("ON", "x")), api.ErrForm},
		{jobOf(item("")), api.ErrForm}, {jobOf(item("on", "x")), api.ErrForm}, {jobOf(item("do", "x"), item("use", "t")), api.ErrForm}, {jobOf(item("use", "T")), api.ErrName},
		{jobOf(item("tries", "9")), api.ErrArg}, {jobOf(item("limit", "01")), api.ErrArg}, {jobOf(item("manual"), item("manual")), api.ErrTwice}, {jobOf(item("axis", "a", "b"), item("axis", "a", "c")), api.ErrTwice},
		{jobOf(item("axis", "a", "b c")), api.ErrForm}, {jobOf(item("keep", "a b")), api.ErrForm}, {jobOf(item("manual", "")), api.ErrForm}, {jobOf(item("tries", "1"), item("keep", ""), item("tries", "9")), api.ErrForm},
		{jobOf(slices.Repeat([]desc.Item{item("do", "x")}, 41)...), api.ErrFull}, {headOf(slices.Repeat([]desc.Item{item("on", "x")}, 41)...), api.ErrFull},
	} {
		checkNoPrint(t, c.d, c.e)
	}
	section := desc.Section{Kind: desc.Template, Name: "t"}
	other := desc.Section{Kind: desc.Job, Name: "t"}
	checkPrint(t, desc.Doc{Sections: []desc.Section{section, other}}, "template t\njob t\n", api.OK)
	checkNoPrint(t, desc.Doc{Sections: []desc.Section{section, other, section}}, api.ErrTwice)
	checkNoPrint(t, desc.Doc{Sections: []desc.Section{section, other, other}}, api.ErrTwice)
	for _, name := range []string{"", "T", "a b", strings.Repeat("t", 25), "t\njob u", "#"} {
		checkNoPrint(t, desc.Doc{Sections: []desc.Section{section, {Kind: desc.Job, Name: name}}}, api.ErrName)
	}
	var all []desc.Section
	for _, kind := range []uint8{desc.Template, desc.Job} {
		for i := range 24 {
			all = append(all, desc.Section{Kind: kind, Name: string(rune('a' + i)), Items: slices.Repeat([]desc.Item{item("do", "x")}, 40)})
		}
	}
	if _, e := desc.Print(desc.Doc{Sections: all}); e != api.OK {
		t.Errorf("24 templates and 24 jobs: %d", int(e))
	}
	for _, kind := range []uint8{desc.Template, desc.Job} {
		checkNoPrint(t, desc.Doc{Sections: append(slices.Clone(all), desc.Section{Kind: kind, Name: "z"})}, api.ErrFull)
		checkNoPrint(t, desc.Doc{Sections: append(slices.Clone(all), desc.Section{Kind: kind, Name: "b"})}, api.ErrTwice)
	}
}

// P12.2: descriptions drawn at random.
func TestPrintDrawn(t *testing.T) {
	r := rand.New(rand.NewPCG(12, 2))
	right := 0
	for range 6000 {
		d := docOf(r, drawnLines(r, 60))
		want, e := printed(d)
		checkPrint(t, d, want, e)
		if e == api.OK {
			right++
		}
	}
	if right < 1000 || right > 5000 {
		t.Errorf("%d descriptions of 6000 are right", right)
	}
}

// P12.2 with R1: it ends soon, however much it is handed.
func TestPrintOfVeryMuch(t *testing.T) {
	long := strings.Repeat("\x00", 1<<20)
	checkNoPrint(t, headOf(item("on", slices.Repeat([]string{long}, 1<<16)...)), api.ErrTooLarge)
	checkNoPrint(t, jobOf(item(long, long)), api.ErrTooLarge)
	checkNoPrint(t, headOf(slices.Repeat([]desc.Item{item("on", "x")}, 1<<18)...), api.ErrFull)
	checkNoPrint(t, desc.Doc{Sections: make([]desc.Section, 1<<18)}, api.ErrArg)
}
