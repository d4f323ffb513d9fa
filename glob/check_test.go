package glob_test

import (
	"strings"
	"testing"

	"bastion/api"
	"bastion/glob"
)

// checkCheck tells where Check is not as it must be, or Match of what is no pattern is not no.
func checkCheck(t *testing.T, pattern string, want api.Errno) {
	t.Helper()
	if e := glob.Check(pattern); e != want {
		t.Errorf("Check(%.70q), of %d bytes: %d; want %d", pattern, len(pattern), int(e), int(want))
	}
	if want == api.OK {
		return
	}
	for _, s := range []string{"", pattern, "a", "a b", "/", strings.Repeat("a", len(pattern))} {
		checkMatch(t, pattern, s, false)
	}
}

// P10.1, example 2: patterns.
func TestCheck(t *testing.T) {
	for _, pattern := range []string{
		"a", "*", "**", "***", "?", "/", "//", ".", "..", "!", "~", "src/*.go", `a"b`, "#", `\*`, "[a", "{a,b}", "(", "$x", "-", "A_9",
	} {
		checkCheck(t, pattern, api.OK)
	}
	for _, pattern := range []string{
		"", "a b", " ", " a", "a ", "\t", "a\n", "\n", "\x00", "a\x00", "\x20", "\x7f", "a\x7fb", "\x80", "\xff", "\u00e4", "a\u00e4", "\u2021", "\x1f", "* *", "**\n",
	} {
		checkCheck(t, pattern, api.ErrForm)
	}
}

// P10.1: each byte, by itself and at each place of a pattern.
func TestCheckEachByte(t *testing.T) {
	for c := range 256 {
		want := api.ErrForm
		if c >= 0x21 && c <= 0x7e {
			want = api.OK
		}
		one := string([]byte{byte(c)})
		for _, around := range []struct{ ahead, behind string }{
			{"", ""}, {"a", ""}, {"", "a"}, {"*", "*"}, {strings.Repeat("a", 63), ""}, {"", strings.Repeat("?", 63)}, {strings.Repeat("*", 32), strings.Repeat("*", 31)},
		} {
			checkCheck(t, around.ahead+one+around.behind, want)
		}
	}
}

// The table of errors: too large ahead of what is no pattern, and MaxWord bytes are not too large.
func TestCheckErrors(t *testing.T) {
	for _, one := range []string{"a", "*", "?", "/"} {
		checkCheck(t, strings.Repeat(one, api.MaxWord), api.OK)
		checkCheck(t, strings.Repeat(one, api.MaxWord+1), api.ErrTooLarge)
		checkCheck(t, strings.Repeat(one, 1000), api.ErrTooLarge)
	}
	for _, one := range []string{" ", "\x00", "\xff"} {
		checkCheck(t, strings.Repeat(one, api.MaxWord), api.ErrForm)
		checkCheck(t, strings.Repeat(one, api.MaxWord+1), api.ErrTooLarge)
		checkCheck(t, strings.Repeat("a", api.MaxWord-1)+one, api.ErrForm)
		checkCheck(t, strings.Repeat("a", api.MaxWord)+one, api.ErrTooLarge)
		checkCheck(t, one+strings.Repeat("a", api.MaxWord), api.ErrTooLarge)
	}
	// Bytes are counted, not runes.
	checkCheck(t, strings.Repeat("\u00e4", api.MaxWord/2), api.ErrForm)
	checkCheck(t, strings.Repeat("\u00e4", api.MaxWord/2+1), api.ErrTooLarge)
	checkCheck(t, strings.Repeat("*", 1<<12), api.ErrTooLarge)
}
