package desc_test

import (
	"slices"
	"testing"

	"bastion/api"
	"bastion/desc"
)

const apartText = "on a b c\nvar v x\ntemplate t\n  do a b c d e\n  manual\njob j\n  use t\n  needs a b\n  keep x y z\njob k\n  do x\n"

// list is a list of an answer: one may write all over it, with its spare room, and ask whether it is as it was.
type list struct {
	write   func()
	isAsWas func() bool
}

// listOf is such a list; what stands in its things is not looked at, since both sides have it in common.
func listOf[T any](l []T, by T, same func(a, b []T) bool) list {
	was := slices.Clone(l)
	return list{
		write: func() {
			room := l[:cap(l)]
			for i := range room {
				room[i] = by
			}
		},
		isAsWas: func() bool { return same(l, was) },
	}
}

// listsOf are all lists of a description.
func listsOf(d desc.Doc) []list {
	var all []list
	items := func(l []desc.Item) {
		for _, item := range l {
			all = append(all, listOf(item.Args, "written", slices.Equal))
		}
		all = append(all, listOf(l, desc.Item{Word: "written"}, sameItems))
	}
	items(d.Head)
	for _, s := range d.Sections {
		items(s.Items)
	}
	return append(all, listOf(d.Sections, desc.Section{Name: "written"}, func(a, b []desc.Section) bool {
		return same(desc.Doc{Sections: a}, desc.Doc{Sections: b})
	}))
}

// R3: what is handed out is new memory, and no two lists of it share any, their spare room neither.
func TestHandedOut(t *testing.T) {
	want := checkRight(t, apartText)
	for i := range listsOf(want) {
		d, _, _ := desc.Parse(apartText)
		other, _, _ := desc.Parse(apartText)
		lists := listsOf(d)
		lists[i].write()
		for j, l := range lists {
			if j != i && !l.isAsWas() {
				t.Errorf("the list %d shows what was written to the list %d", j, i)
			}
		}
		if !same(other, want) {
			t.Errorf("another answer shows what was written: %s", short(other))
		}
		check(t, apartText, want, 0, api.OK)
	}
}

// R3: what is handed in is not changed, with the room behind its ends, and that room is not read.
func TestHandedIn(t *testing.T) {
	args := []string{"a", "b", "", "behind"}
	items := []desc.Item{{1, "needs", args[:2]}, {2, "manual", args[:0]}, {3, "nothing", nil}}
	sections := []desc.Section{{1, desc.Job, "j", items[:2]}, {2, 9, "J", nil}}
	head := []desc.Item{{1, "on", args[:1]}, {1, "nothing", nil}}
	for range 2 {
		checkPrint(t, desc.Doc{Head: head[:1], Sections: sections[:1]}, "on a\njob j\n  needs a b\n  manual\n", api.OK)
		checkPrint(t, desc.Doc{Head: head[:1], Sections: sections}, "", api.ErrArg)
		checkPrint(t, desc.Doc{Head: head}, "", api.ErrForm)
	}
	if !slices.Equal(args, []string{"a", "b", "", "behind"}) || items[2].Word != "nothing" || sections[1].Kind != 9 || head[1].Word != "nothing" {
		t.Errorf("what was handed in is changed: %v, %v, %v, %v", args, items, sections, head)
	}
}

// R2: an answer hangs on what is asked alone.
func TestAgain(t *testing.T) {
	for range 3 {
		checkWrong(t, "job a\nmanual\nmanual", 3, api.ErrTwice)
		checkRight(t, "job a\nmanual")
		checkWrong(t, many(25, "job j%"), 25, api.ErrFull)
		checkRight(t, many(24, "job j%"))
		checkNoPrint(t, jobOf(item("manual"), item("manual")), api.ErrTwice)
		checkPrint(t, jobOf(item("manual")), "job j\n  manual\n", api.OK)
	}
}
