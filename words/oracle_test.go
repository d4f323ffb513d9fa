package words_test

import (
	"fmt"
	"math/rand/v2"
	"regexp"
	"slices"
	"strconv"
	"strings"

	"bastion/api"
)

// What the chapter says of words, told a second time: by expressions, and by the language's own quoted texts.
var (
	plainForm  = `[!$-~][!#-~]*`
	quotedForm = `"(?:[ !#-\[\]-~]|\\["\\nt]|\\x[0-9a-f]{2})*"`
	wordForm   = "(?:" + plainForm + "|" + quotedForm + ")"
	wordsForm  = wordForm + `(?:[ \t]+` + wordForm + ")*"
	lineForm   = `(?:[ \t]*` + wordsForm + `(?:[ \t]*|[ \t]+#[^\n]*)|[ \t]*(?:#[^\n]*)?)`

	plainWord = regexp.MustCompile(`\A` + plainForm + `\z`)
	aWord     = regexp.MustCompile(`\A` + wordForm)
	aLine     = regexp.MustCompile(`\A` + lineForm + `\z`)
)

// lineOf is what Split must answer of a line.
func lineOf(line string) ([]string, api.Errno) {
	if len(line) > api.MaxLine {
		return nil, api.ErrTooLarge
	}
	if !aLine.MatchString(line) {
		return nil, api.ErrForm
	}
	var all []string
	for {
		line = strings.TrimLeft(line, " \t")
		form := aWord.FindString(line)
		if form == "" {
			return all, api.OK
		}
		line = line[len(form):]
		if form[0] == '"' {
			told, err := strconv.Unquote(form)
			if err != nil {
				panic(err)
			}
			form = told
		}
		all = append(all, form)
	}
}

// formOf is a word's own form.
func formOf(word string) string {
	if plainWord.MatchString(word) {
		return word
	}
	var form strings.Builder
	for _, c := range []byte(word) {
		switch {
		case c == '\n':
			form.WriteString("\\n")
		case c == '\t':
			form.WriteString("\\t")
		case strings.IndexByte("\"\\", c) >= 0:
			form.WriteString("\\" + string(rune(c)))
		case c < 0x20 || c > 0x7e:
			fmt.Fprintf(&form, "\\x%02x", c)
		default:
			form.WriteByte(c)
		}
	}
	return "\"" + form.String() + "\""
}

// joined is what Join must answer of words.
func joined(all []string) (string, api.Errno) {
	forms := make([]string, len(all))
	for i, word := range all {
		forms[i] = formOf(word)
	}
	line := strings.Join(forms, " ")
	if len(line) > api.MaxLine {
		return "", api.ErrTooLarge
	}
	return line, api.OK
}

// short calls do with all texts of at most so many of these pieces.
func short(pieces []string, most int, do func(text string)) {
	ahead := []string{""}
	for n := 0; ; n++ {
		for _, text := range ahead {
			do(text)
		}
		if n == most {
			return
		}
		var longer []string
		for _, text := range ahead {
			for _, piece := range pieces {
				longer = append(longer, text+piece)
			}
		}
		ahead = longer
	}
}

// manyWords are lists of words of all kinds, most of them short enough for a line.
func manyWords() [][]string {
	all := [][]string{nil, {}, {""}, {"", ""}, {"", "", ""}}
	for c := range 256 {
		b := string([]byte{byte(c)})
		all = append(all, []string{b}, []string{"a" + b}, []string{b + "a"}, []string{"a", b, "z"}, []string{b + b, "", b})
	}
	from := rand.New(rand.NewPCG(2, 2026))
	bytes := "a0z#\"\\ \t\n\x00\x1f\x7f\x80\xffnx~!"
	for range 3000 {
		list := make([]string, from.IntN(12))
		for i := range list {
			word := make([]byte, from.IntN(1+from.IntN(40)))
			for j := range word {
				word[j] = bytes[from.IntN(len(bytes))]
			}
			list[i] = string(word)
		}
		all = append(all, list)
	}
	return all
}

// aLot are lines of which Split answers words.
func aLot() []string {
	all := []string{"", " ", "\t", "a", "push \"a b\" x#y", "\"\"", "\"#\" x# \\ \\n", "\t a \t \"\\t\\n\\\"\\\\\\x00\\xff\"", "\" \" \"  \""}
	for _, list := range manyWords() {
		if line, e := joined(list); e == api.OK {
			all = append(all, line)
		}
	}
	return all
}

// same tells whether both are the same words; an empty list may be nil.
func same(a, b []string) bool { return slices.Equal(a, b) }
