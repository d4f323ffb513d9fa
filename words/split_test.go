package words_test

import (
	"slices"
	"strings"
	"testing"

	"bastion/api"
	"bastion/words"
)

// checkSplit tells where Split answers of the line something else than it must.
func checkSplit(t *testing.T, line string, want []string, wantErr api.Errno) {
	t.Helper()
	got, e := words.Split(line)
	if e != wantErr || !same(got, want) {
		t.Errorf("Split(%q): %q, %d; want %q, %d", line, got, int(e), want, int(wantErr))
	}
}

// P2.1, example 1.
func TestSplitExamples(t *testing.T) {
	for _, c := range []struct {
		line string
		want []string
	}{
		{`push "a b" x#y # z`, []string{"push", "a b", "x#y"}},
		{`""`, []string{""}},
		{"", nil},
		{" \t ", nil},
		{"#", nil},
		{"# a \"", nil},
		{"\t#\x00\xff\r", nil},
		{"a", []string{"a"}},
		{"  a\t\tb  ", []string{"a", "b"}},
		{`"" ""`, []string{"", ""}},
		{`a\b \x4 \`, []string{`a\b`, `\x4`, `\`}},
		{`"a#b" "#" a# # a`, []string{"a#b", "#", "a#"}},
		{`"\"\\\n\t"`, []string{"\"\\\n\t"}},
		{`"\x00\x0a\x41\x7f\xa0\xff"`, []string{"\x00\nA\x7f\xa0\xff"}},
		{`"a\\" "\\\""`, []string{`a\`, `\"`}},
		{"~!$ ~", []string{"~!$", "~"}},
		{"\"\\\\n\"", []string{`\n`}},
	} {
		checkSplit(t, c.line, c.want, api.OK)
	}
}

// P2.1, example 1: what is no line.
func TestSplitNoLine(t *testing.T) {
	for _, line := range []string{
		`a"b`, `"a`, `"a"b`, `"\q"`, `"\x4"`, `"\x4G"`, "\x01",
		`"`, `a"`, `a""`, `""a`, `""""`, `"a""b"`, `"a"#`, `"a"# b`, `""#`,
		`"\"`, `"\`, `"\x`, `"\x4`, `"\x41`, `"\x"`, `"\x4A"`, `"\xg0"`, `"\x 1"`, `"\N"`, `"\r"`, `"\0"`, `"\'"`, `"\ "`, `"\#"`, `"\X41"`,
		"\"\t\"", "\"\n\"", "\"\x7f\"", "\"\x80\"", "\"\x00\"", "\"\\\n\"",
		"a\n", "\n", "a\nb", "# a\n", "a # b\nc", "\r", "a\r", "a\x7f", "\x7f", "a\x80", "\u00e4", "a \x00",
		`good "bad`, `good "\q" more`, `"bad # no remark`,
	} {
		checkSplit(t, line, nil, api.ErrForm)
	}
}

// P2.1: each byte at each place at which bytes are told apart.
func TestSplitEachByte(t *testing.T) {
	for _, around := range []struct{ ahead, behind string }{
		{"", ""}, {"a", ""}, {"", "a"}, {"a", "b"}, {" ", " "}, {"a ", " b"},
		{`"`, `"`}, {`"a`, `b"`}, {`"\`, `"`}, {`"\x`, `0"`}, {`"\x0`, `"`}, {`"\x`, `f a"`}, {`"\xf`, `f"`},
		{`"a"`, ""}, {`"a"`, "b"}, {`"a"`, `"b"`}, {"#", ""}, {"a #", "z"}, {"a", "# z"}, {`"a`, ""}, {`"\\`, `"`},
	} {
		for c := range 256 {
			line := around.ahead + string([]byte{byte(c)}) + around.behind
			want, e := lineOf(line)
			checkSplit(t, line, want, e)
		}
	}
}

// P2.1: all short lines.
func TestSplitAllShort(t *testing.T) {
	check := func(line string) {
		want, e := lineOf(line)
		checkSplit(t, line, want, e)
	}
	short([]string{"a", "\"", "\\", "#", " ", "\t", "\n", "x", "4", "n", "\x01", "\xff"}, 4, check)
	short([]string{"a", "\"", " ", "#", "\\x4", "\\\""}, 6, check)
}

// P2.1, the table of errors: too large ahead of what is no line, and MaxLine bytes are not too large.
func TestSplitErrors(t *testing.T) {
	whole := strings.Repeat("a", api.MaxLine)
	checkSplit(t, whole, []string{whole}, api.OK)
	checkSplit(t, whole+"a", nil, api.ErrTooLarge)
	checkSplit(t, strings.Repeat(" ", api.MaxLine), nil, api.OK)
	checkSplit(t, strings.Repeat(" ", api.MaxLine+1), nil, api.ErrTooLarge)
	checkSplit(t, "a #"+strings.Repeat("\xff", api.MaxLine-3), []string{"a"}, api.OK)
	checkSplit(t, "a #"+strings.Repeat("\xff", api.MaxLine-2), nil, api.ErrTooLarge)
	checkSplit(t, `"`+strings.Repeat(`\x00`, 99)+`"`, []string{strings.Repeat("\x00", 99)}, api.OK)
	checkSplit(t, strings.Repeat("a ", api.MaxLine/2), slices.Repeat([]string{"a"}, api.MaxLine/2), api.OK)
	checkSplit(t, strings.Repeat("\x01", api.MaxLine), nil, api.ErrForm)
	checkSplit(t, strings.Repeat("\x01", api.MaxLine+1), nil, api.ErrTooLarge)
	checkSplit(t, strings.Repeat("a ", 100)+`"`, nil, api.ErrForm)
	checkSplit(t, `"`+strings.Repeat("a", 1<<20), nil, api.ErrTooLarge)
}

// P2.1 with R2 and R3: what the caller writes to an answer no other one shows.
func TestSplitApart(t *testing.T) {
	line := `push "a b" x "" y`
	first, _ := words.Split(line)
	second, _ := words.Split(line)
	room := first[:cap(first)]
	for i := range room {
		room[i] = "written"
	}
	want := []string{"push", "a b", "x", "", "y"}
	if !same(second, want) {
		t.Errorf("another answer shows what was written: %q", second)
	}
	checkSplit(t, line, want, api.OK)
}

// P2.4: blanks, and a remark behind a blank, change nothing.
func TestRemarks(t *testing.T) {
	for _, line := range aLot() {
		want, e := words.Split(line)
		if e != api.OK {
			t.Fatalf("Split(%q): %d", line, int(e))
		}
		more := []string{line + " ", line + "\t", " " + line, line + " #", line + "\t# \" \\q", line + " # a # \x00\x7f\xff", line + "  #a"}
		var forms []string
		for _, word := range want {
			forms = append(forms, formOf(word))
		}
		for _, between := range []string{"\t", "  ", "\t \t"} {
			more = append(more, strings.Join(forms, between))
		}
		for _, longer := range more {
			if len(longer) > api.MaxLine {
				checkSplit(t, longer, nil, api.ErrTooLarge)
				continue
			}
			checkSplit(t, longer, want, api.OK)
		}
	}
}

// P2.4: as long as it fits, and no longer.
func TestRemarksFit(t *testing.T) {
	line := `a "b c" ""`
	want := []string{"a", "b c", ""}
	for n := range 8 {
		spare := strings.Repeat("#", api.MaxLine-len(line)-4+n)
		wantNow, e := want, api.OK
		if n > 3 {
			wantNow, e = nil, api.ErrTooLarge
		}
		checkSplit(t, line+" "+spare, wantNow, e)
		checkSplit(t, line+strings.Repeat("\t", len(spare)+1), wantNow, e)
		checkSplit(t, strings.Repeat(" ", len(spare)+1)+line, wantNow, e)
	}
}
