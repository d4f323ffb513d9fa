package matrix_test

import (
	"math/rand/v2"
	"slices"
	"strings"
	"testing"

	"bastion/api"
	"bastion/matrix"
)

// checkLabelIs tells where a label is not this one, or does not tell the name and the values.
func checkLabelIs(t *testing.T, want, name string, row ...string) {
	t.Helper()
	if got := checkLabel(t, name, row); got != want {
		t.Errorf("Label(%q, %q): %q; want %q", name, row, got, want)
	}
	gotName, gotRow, e := checkParse(t, want)
	if gotName != name || !slices.Equal(gotRow, row) || e != api.OK {
		t.Errorf("Parse(%q): %q, %q, %d; want %q, %q", want, gotName, gotRow, int(e), name, row)
	}
}

// P14.2, example 1.
func TestLabel(t *testing.T) {
	checkLabelIs(t, "test:x,1", "test", "x", "1")
	checkLabelIs(t, `a\:b:c\,d,e\\`, "a:b", "c,d", `e\`)
	checkLabelIs(t, "test:x", "test", "x")
	checkLabelIs(t, "test:x,y,z,x", "test", "x", "y", "z", "x")
	checkLabelIs(t, "a b: c ,\n", "a b", " c ", "\n")
}

// P14.2: a name without values has no colon; one value that is empty makes one.
func TestLabelEmpty(t *testing.T) {
	checkLabelIs(t, "test", "test")
	checkLabelIs(t, "test:", "test", "")
	checkLabelIs(t, "test:,", "test", "", "")
	checkLabelIs(t, "test:,,", "test", "", "", "")
	checkLabelIs(t, "test:x,", "test", "x", "")
	checkLabelIs(t, "test:,x", "test", "", "x")
	checkLabelIs(t, "test:x,,y", "test", "x", "", "y")
	checkLabelIs(t, "", "")
	checkLabelIs(t, ":", "", "")
	checkLabelIs(t, ":,", "", "", "")
	checkLabelIs(t, ":x", "", "x")
	for _, row := range [][]string{nil, {}} {
		if got := matrix.Label("test", row); got != "test" {
			t.Errorf("Label of %#v: %q", row, got)
		}
	}
}

// P14.2: what has a \ ahead in the text, and what in values.
func TestLabelMarks(t *testing.T) {
	checkLabelIs(t, `\:`, ":")
	checkLabelIs(t, `\\`, `\`)
	checkLabelIs(t, ",", ",")
	checkLabelIs(t, `\\\:`, `\:`)
	checkLabelIs(t, `\:\\`, `:\`)
	checkLabelIs(t, `\\,`, `\,`)
	checkLabelIs(t, `\\\\`, `\\`)
	checkLabelIs(t, `a,b\:`, "a,b:")
	checkLabelIs(t, `\:::`, ":", ":")
	checkLabelIs(t, `,:\,`, ",", ",")
	checkLabelIs(t, `\\:\\`, `\`, `\`)
	checkLabelIs(t, `::`, "", ":")
	checkLabelIs(t, `::,:`, "", ":", ":")
	checkLabelIs(t, `a:b:c`, "a", "b:c")
	checkLabelIs(t, `a\:b`, "a:b")
	checkLabelIs(t, `a:b,c`, "a", "b", "c")
	checkLabelIs(t, `a:b\,c`, "a", "b,c")
	checkLabelIs(t, `a:\\:,:\\,\\\,`, "a", `\:`, `:\`, `\,`)
	checkLabelIs(t, `a,:b`, "a,", "b")
	checkLabelIs(t, `a:b,\\`, "a", "b", `\`)
}

// P14.2: each byte, and each two bytes, in the name and in values.
func TestLabelEachByte(t *testing.T) {
	for c := range 256 {
		one := string([]byte{byte(c)})
		name, value := one, one
		if one == `\` || one == ":" {
			name = `\` + one
		}
		if one == `\` || one == "," {
			value = `\` + one
		}
		checkLabelIs(t, name, one)
		checkLabelIs(t, name+":"+value, one, one)
		checkLabelIs(t, name+"a"+name+":"+value+"a"+value+","+value, one+"a"+one, one+"a"+one, one)
		for d := range 256 {
			two := string([]byte{byte(c), byte(d)})
			checkLabel(t, two, nil)
			checkLabel(t, one, []string{two, ""})
		}
	}
}

// P14.2: of all short texts, and of texts drawn at random.
func TestLabelDrawn(t *testing.T) {
	texts := short([]string{"a", `\`, ":", ","}, 3)
	for _, name := range texts {
		checkLabel(t, name, nil)
		for _, one := range texts {
			checkLabel(t, name, []string{one})
			checkLabel(t, one, []string{name, one, name})
		}
	}
	r := rand.New(rand.NewPCG(14, 3))
	for range 20000 {
		checkLabel(t, drawn(r, 8), drawnList(r, 6, 6))
	}
}

// P14.2 with R1: long ones end soon.
func TestLabelLong(t *testing.T) {
	const many = 1 << 16
	for _, one := range []string{"a", `\`, ":", ",", "", "\xff"} {
		text := strings.Repeat(one, many)
		name, value := nameForms.Replace(text), valueForms.Replace(text)
		if got := matrix.Label(text, []string{text, text}); got != name+":"+value+","+value {
			t.Errorf("of %d times %q: %d bytes", many, one, len(got))
		}
		row := slices.Repeat([]string{one}, many)
		label := "a:" + strings.Join(slices.Repeat([]string{valueForms.Replace(one)}, many), ",")
		if got := matrix.Label("a", row); got != label {
			t.Errorf("of %d values %q: %d bytes", many, one, len(got))
		}
		if name, got, e := matrix.Parse(label); name != "a" || !slices.Equal(got, row) || e != api.OK {
			t.Errorf("back of %d values %q: %.70q, %d values, %d", many, one, name, len(got), int(e))
		}
	}
}
