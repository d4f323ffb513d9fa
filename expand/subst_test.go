package expand_test

import (
	"math/rand/v2"
	"strconv"
	"strings"
	"testing"

	"bastion/api"
	"bastion/expand"
)

// P13.1, example 1.
func TestSubst(t *testing.T) {
	vars := variables("x", "1", "x-", "2")
	checkSubst(t, "a${x}b$x-$$", vars, "a1b2$", api.OK)
	for _, text := range []string{"$", "$X", "${x"} {
		checkSubst(t, text, vars, "", api.ErrForm)
	}
	checkSubst(t, "$y", vars, "", api.ErrName)
	checkSubst(t, "", vars, "", api.OK)
	checkSubst(t, "", nil, "", api.OK)
}

// P13.1: the letters of a name are taken as far as they go, in brackets just those between.
func TestSubstNames(t *testing.T) {
	vars := variables("a", "1", "a-", "2", "a-b_9", "3", "ab", "4", "empty", "")
	for text, want := range map[string]string{
		"$a": "1", "$a-": "2", "$a-b_9": "3", "$ab": "4", "$a$a-$ab": "124", "$a.b": "1.b", "$aB": "1B", "$a b": "1 b", "$a/$ab": "1/4", "$a{b}": "1{b}", "$a}": "1}", "$a\xff": "1\xff", "$a\x00": "1\x00", "$a\n": "1\n",
		"${a}": "1", "${a}-": "1-", "${a}b": "1b", "${a-}b": "2b", "${a-b_9}9": "39", "${a}{": "1{", "${a}}": "1}", "${a}${a}": "11", "{$a}": "{1}", "{${a}}": "{1}",
		"$empty": "", "${empty}a": "a", "$empty$empty": "",
		"$$": "$", "$$a": "$a", "$$$a": "$1", "$$$$a": "$$a", "a$$": "a$", "$$$$": "$$", "$${a}": "${a}", "$a$$a": "1$a", "$$$$$a-": "$$2",
		"{}": "{}", "a}": "a}", "no {a} here": "no {a} here",
	} {
		checkSubst(t, text, vars, want, api.OK)
	}
	for _, text := range []string{
		"$", "a$", "$$$", "$ a", "$ $", "$A", "$9", "$-", "$_", "$9a", "$-a", "$_a", "$Aa", "$.a", "$\xe4", "$\x00", "$\n", "$}",
		"${", "${}", "${a", "${a ", "${ a}", "${a }", "${A}", "${9a}", "${-}", "${aA}", "${a.b}", "${a$b}", "${$a}", "${{a}}", "${a{}", "${a\n}", "${\xe4}",
	} {
		checkSubst(t, text, vars, "", api.ErrForm)
	}
	for _, text := range []string{"$b", "${b}", "$abc", "$a-b", "$a_", "$a9", "${a_}", "$a--", "$b$", "$b$a", "${aa}", "x$empty-"} {
		checkSubst(t, text, vars, "", api.ErrName)
	}
}

// P13.1: a name has MaxName bytes at most.
func TestSubstLongNames(t *testing.T) {
	name24, name25 := "n"+strings.Repeat("9", 23), "n"+strings.Repeat("9", 24)
	vars := variables(name24, "24", name25, "25", "n", "1")
	checkSubst(t, "$"+name24, vars, "24", api.OK)
	checkSubst(t, "${"+name24+"}9", vars, "249", api.OK)
	checkSubst(t, "$"+name24+".9", vars, "24.9", api.OK)
	checkSubst(t, "$"+name24, vars[1:], "", api.ErrName)
	for _, text := range []string{"$" + name25, "${" + name25 + "}", "$" + name25 + "9", "$n$" + name25} {
		checkSubst(t, text, vars, "", api.ErrForm)
	}
}

// P13.1: of one name it is the last variable's value; values are put in as they are, whatever they are.
func TestSubstValues(t *testing.T) {
	vars := variables("a", "1", "b", "$a", "a", "2", "c", "$$ ${a} $", "a", "\xff\x00\n\"", "d", "")
	checkSubst(t, "$a", vars, "\xff\x00\n\"", api.OK)
	checkSubst(t, "$a", vars[:4], "2", api.OK)
	checkSubst(t, "$b$a", vars[:3], "$a2", api.OK)
	checkSubst(t, "$c", vars, "$$ ${a} $", api.OK)
	checkSubst(t, "$c", vars[:3], "", api.ErrName)
	// What is no name is not put in by anything.
	vars = variables("", "1", "A", "2", "9", "3", "a b", "4", "$", "5", "{a}", "6", "a", "7")
	checkSubst(t, "$a $$ ${a}", vars, "7 $ 7", api.OK)
	for _, text := range []string{"$", "${}", "$A", "$9", "${a b}", "${$}", "${{a}}"} {
		checkSubst(t, text, vars, "", api.ErrForm)
	}
}

// The table of errors: the first one from the left; that too much comes of a text goes behind all.
func TestSubstOrder(t *testing.T) {
	vars := variables("a", "1", "long", strings.Repeat("x", 401))
	for text, want := range map[string]api.Errno{
		"$y$": api.ErrName, "$ $y": api.ErrForm, "$y $": api.ErrName, "${y}${": api.ErrName, "${y$y": api.ErrForm, "$a$y$": api.ErrName, "$a$.$y": api.ErrForm, "$$$y$": api.ErrName, "$$$": api.ErrForm,
		"$long": api.ErrTooLarge, "$long$y": api.ErrName, "$long$": api.ErrForm, "$y$long": api.ErrName, "$long${a": api.ErrForm, "$a$long": api.ErrTooLarge,
		strings.Repeat("x", 401): api.ErrTooLarge, strings.Repeat("x", 401) + "$": api.ErrForm, strings.Repeat("x", 401) + "$y$": api.ErrName,
	} {
		checkSubst(t, text, vars, "", want)
	}
}

// The table of errors: MaxLine bytes may come of a text, not one more, however long the text is itself.
func TestSubstTooLarge(t *testing.T) {
	x := strings.Repeat("x", 400)
	vars := variables("a", "1", "x", x, "y", x[:399], "empty", "", "empty-2", "")
	for _, c := range []struct{ text, want string }{
		{x, x}, {"$x", x}, {"${x}", x}, {"$y.", x[:399] + "."}, {".$y", "." + x[:399]}, {"$y$a", x[:399] + "1"}, {"$x$empty", x}, {"$empty$x", x}, {strings.Repeat("$$", 400), strings.Repeat("$", 400)},
		{strings.Repeat("$a", 400), strings.Repeat("1", 400)}, {strings.Repeat("${a}", 400), strings.Repeat("1", 400)}, {strings.Repeat("$empty${empty-2}", 1000), ""}, {strings.Repeat("${empty}", 1000) + "b", "b"},
	} {
		checkSubst(t, c.text, vars, c.want, api.OK)
	}
	for _, text := range []string{x + "x", "$x.", ".$x", "$x$a", "$y$a.", "$x$$", "$x$x", strings.Repeat("$$", 401), strings.Repeat("$a", 401), x[:399] + "$a$a", x[:200] + "$$" + x[:200], "$x $empty"} {
		checkSubst(t, text, vars, "", api.ErrTooLarge)
	}
}

// P13.1: each byte behind a $, in brackets and without, ahead of others and at the end.
func TestSubstEachByte(t *testing.T) {
	vars := variables("a", "1", "b", "2", "ab", "3", "z", "4", "a-", "5", "a0", "6")
	for c := range 256 {
		one := string([]byte{byte(c)})
		for _, text := range []string{one, "$" + one, "$" + one + "b", "$a" + one, "$a" + one + "b", "${" + one + "}", "${a" + one + "}", "${" + one + "a}", "${a}" + one, "$$" + one, one + "$a"} {
			want, e := substituted(text, vars)
			checkSubst(t, text, vars, want, e)
		}
	}
}

// P13.1: all short texts.
func TestSubstAllShort(t *testing.T) {
	vars := variables("a", "1", "a9", "22", "aa", "$", "a", "333")
	all := []string{""}
	for range 6 {
		var longer []string
		for _, s := range all {
			for _, c := range "a9$${}." {
				longer = append(longer, s+string(c))
			}
		}
		for _, text := range longer {
			want, e := substituted(text, vars)
			checkSubst(t, text, vars, want, e)
		}
		all = longer
	}
}

// P13.1: texts drawn at random.
func TestSubstDrawn(t *testing.T) {
	r := rand.New(rand.NewPCG(13, 1))
	parts := []string{"$$", "$a", "${a}", "$b-1", "${b-1}", "$long", "${c}", "x", " ", "-", "}", "{", "A", "0", "b", "$", "${", "$no", "\xff"}
	right := 0
	for range 20000 {
		vars := variables("a", "1", "b-1", "$a", "long", strings.Repeat("l", r.IntN(80)), "c", "{}", "a", strconv.Itoa(r.IntN(1000)))
		var text strings.Builder
		for range r.IntN(14) {
			// The last ones are mostly wrong.
			text.WriteString(parts[min(r.IntN(len(parts)), r.IntN(60))])
		}
		want, e := substituted(text.String(), vars)
		checkSubst(t, text.String(), vars, want, e)
		if e == api.OK {
			right++
		}
	}
	if right < 4000 || right > 16000 {
		t.Errorf("%d texts of 20000 are right", right)
	}
}

// P13.1 with R1: it ends soon, however much it is handed.
func TestSubstOfVeryMuch(t *testing.T) {
	const much = 1 << 20
	var vars []api.Var
	for i := range 1 << 16 {
		vars = append(vars, api.Var{Name: "v" + strconv.Itoa(i), Value: ""})
	}
	long := variables("a", strings.Repeat("x", much))
	for _, c := range []struct {
		text string
		vars []api.Var
		want api.Errno
	}{
		{strings.Repeat("x", much), vars, api.ErrTooLarge}, {strings.Repeat("$", much), vars, api.ErrTooLarge}, {strings.Repeat("$", much+1), vars, api.ErrForm},
		{strings.Repeat("$v1.", 400), vars, api.OK}, {strings.Repeat("$v1", much), vars, api.OK}, {strings.Repeat("${v65535}", much), vars, api.OK}, {strings.Repeat("$v0$v65535", much) + "$", vars, api.ErrForm},
		{strings.Repeat("$a", much), long, api.ErrTooLarge}, {strings.Repeat("$a.", much) + "$b", long, api.ErrName}, {strings.Repeat("${", much), long, api.ErrForm}, {"$" + strings.Repeat("a", much), long, api.ErrForm},
		{"${" + strings.Repeat("a", much) + "}", long, api.ErrForm}, {"$$" + strings.Repeat("\x00", much), nil, api.ErrTooLarge},
	} {
		if s, e := expand.Subst(c.text, c.vars); e != c.want || e != api.OK && s != "" {
			t.Errorf("Subst(%.20q, of %d bytes): %.20q, %d; want %d", c.text, len(c.text), s, int(e), int(c.want))
		}
	}
}
