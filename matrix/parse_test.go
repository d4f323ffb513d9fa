package matrix_test

import (
	"math/rand/v2"
	"strings"
	"testing"

	"bastion/api"
	"bastion/matrix"
)

// checkParseFails tells where Parse does not answer ErrForm, with nothing.
func checkParseFails(t *testing.T, label string) {
	t.Helper()
	if name, row, e := checkParse(t, label); name != "" || len(row) > 0 || e != api.ErrForm {
		t.Errorf("Parse(%.300q): %.70q, %.300q, %d; want %d", label, name, row, int(e), int(api.ErrForm))
	}
}

// The table of errors, example 2: a \ at the end, or with another byte behind it.
func TestParseErrors(t *testing.T) {
	for _, label := range []string{
		`a\b`, `\`, `a\`, `a\\\`, `\\\`, `\,`, `a\,b`, `\a`, `a\:\`, `a\ :`,
		`a:\`, `a:b\`, `a:b\\\`, `a:\:`, `a:b\:c`, `a:\b`, `a:b,\`, `a:b,c\`, `a:b,\:`, `a:b,\c`, `a:b,c,\ `, `:\`, `:,\`, `:\:`,
		`a:\,\`, `a:b\,\:`, `a\,:b`, `a\,:b\,`, `\\\,`, `a\b:c`, `a\b:c\:`,
		"\\\n", "\\\x00", "\\\xff", "a:\\\n", "a:\\\x00", "a:\\\xff", "\\\u0100", "a:\\\u0102",
	} {
		checkParseFails(t, label)
	}
}

// P14.2: each byte behind a \, at each place.
func TestParseEachByte(t *testing.T) {
	for c := range 256 {
		one := string([]byte{byte(c)})
		for _, behind := range []string{"", "a", ":a", ",a", `\\`} {
			name := `\` + one + behind
			checkParse(t, name)
			checkParse(t, "a"+name)
			checkParse(t, "a:"+name)
			checkParse(t, "a:,a"+name)
			checkParse(t, `\`+name)
			checkParse(t, `a:\`+name)
			if one != `\` && one != ":" {
				checkParseFails(t, name)
				checkParseFails(t, `a\:,`+name)
			}
			if one != `\` && one != "," {
				checkParseFails(t, ":"+name)
				checkParseFails(t, `a:\,,`+name)
			}
		}
	}
}

// P14.2: all short labels, and what is none.
func TestParseAllShort(t *testing.T) {
	seen := map[api.Errno]int{}
	for _, label := range short([]string{"a", `\`, ":", ","}, 8) {
		_, _, e := checkParse(t, label)
		seen[e]++
	}
	if seen[api.OK] < 1000 || seen[api.ErrForm] < 1000 || len(seen) != 2 {
		t.Errorf("errors of the short labels: %v", seen)
	}
}

// P14.2: labels drawn at random, and what is none.
func TestParseDrawn(t *testing.T) {
	r := rand.New(rand.NewPCG(14, 4))
	seen := map[api.Errno]int{}
	for range 50000 {
		_, _, e := checkParse(t, drawn(r, 12))
		seen[e]++
	}
	if seen[api.OK] < 1000 || seen[api.ErrForm] < 1000 || len(seen) != 2 {
		t.Errorf("errors of the labels drawn: %v", seen)
	}
}

// P14.2 with R1: long ones end soon, also where they are none.
func TestParseLong(t *testing.T) {
	const many = 1 << 18
	for _, one := range []string{"a", ",", ":", `\\`, `\:`} {
		name, row, e := matrix.Parse(strings.Repeat(one, many))
		wantName, wantRow, wantE := parseTold(strings.Repeat(one, many))
		if name != wantName || len(row) != len(wantRow) || e != wantE {
			t.Errorf("of %d times %s: %d bytes, %d values, %d", many, one, len(name), len(row), int(e))
		}
		for _, end := range []string{`\`, `\a`} {
			if name, row, e := matrix.Parse(strings.Repeat(one, many) + end); name != "" || len(row) > 0 || e != api.ErrForm {
				t.Errorf("of %d times %s, and %s: %d bytes, %d values, %d", many, one, end, len(name), len(row), int(e))
			}
		}
	}
}
