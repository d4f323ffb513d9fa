package expand

import (
	"strings"

	"bastion/api"
	"bastion/desc"
)

// put puts variables into a text, each with the value that is told of its name.
func put(text string, value func(name string) (string, bool)) (string, api.Errno) {
	var to bounded
	plain, rest, more := strings.Cut(text, "$")
	to.add(plain)
	for more {
		told, behind, e := mark(rest, value)
		if e != api.OK {
			return "", e
		}
		to.add(told)
		plain, rest, more = strings.Cut(behind, "$")
		to.add(plain)
	}
	if to.isOver {
		return "", api.ErrTooLarge
	}
	return to.String(), api.OK
}

// mark is what a $ tells that stands ahead of this text, and what of the text is behind it then.
func mark(text string, value func(name string) (string, bool)) (told, behind string, e api.Errno) {
	if behind, is := strings.CutPrefix(text, "$"); is {
		return "$", behind, api.OK
	}
	name, behind, is := nameAhead(text)
	if !is {
		return "", "", api.ErrForm
	}
	told, is = value(name)
	if !is {
		return "", "", api.ErrName
	}
	return told, behind, api.OK
}

// nameAhead is the name with which a text begins, between { and } or by itself, if it begins with one.
func nameAhead(text string) (name, behind string, is bool) {
	if inner, is := strings.CutPrefix(text, "{"); is {
		name, behind, is := strings.Cut(inner, "}")
		return name, behind, is && desc.Name(name)
	}
	size := 0
	for size < len(text) && isOfName(text[size]) {
		size++
	}
	return text[:size], text[size:], desc.Name(text[:size])
}

// isOfName tells whether a byte may stand in a name, though it may not begin one.
func isOfName(c byte) bool {
	return c >= 'a' && c <= 'z' || c >= '0' && c <= '9' || c == '-' || c == '_'
}

// bounded is a text of MaxLine bytes at most. What would be more is not kept: values may be long, and be put in often.
type bounded struct {
	strings.Builder
	isOver bool
}

func (b *bounded) add(s string) {
	b.isOver = b.isOver || len(s) > api.MaxLine-b.Len()
	if !b.isOver {
		b.WriteString(s)
	}
}
