package expand_test

import (
	"slices"
	"testing"

	"bastion/api"
	"bastion/desc"
	"bastion/expand"
)

func apartTree() []api.File {
	return files("ci", "include lib|var v 1|var w 2|on a b c|on d|template t|do a b c d e|manual|keep x y|var x 3|job j|use t|needs a b|job k|use t|var v 9|job l|do x|job m", "lib", "paths a b c|on x")
}

// list is a list of an answer: one may write all over it, with its spare room, and ask whether it is as it was.
type list struct {
	write   func()
	isAsWas func() bool
}

func listOf[T any](l []T, by T, same func(a, b []T) bool) list {
	was := slices.Clone(l)
	return list{
		write: func() {
			room := l[:cap(l)]
			for i := range room {
				room[i] = by
			}
		},
		// What lists within it have is theirs to tell.
		isAsWas: func() bool { return same(l, was) },
	}
}

func listsOfItems(l []desc.Item) []list {
	var all []list
	for _, item := range l {
		all = append(all, listOf(item.Args, "written", slices.Equal))
	}
	return append(all, listOf(l, desc.Item{Word: "written"}, sameItems))
}

func listsOfJobs(l []expand.Decl) []list {
	var all []list
	for _, d := range l {
		all = append(all, listsOfItems(d.Items)...)
		all = append(all, listOf(d.Vars, api.Var{Name: "written"}, slices.Equal))
	}
	return append(all, listOf(l, expand.Decl{Name: "written"}, sameDecls))
}

// checkLists writes to each list of an answer in turn, and tells where another one shows it.
func checkLists(t *testing.T, lists func() []list) {
	t.Helper()
	for i := range lists() {
		l := lists()
		l[i].write()
		for k, other := range l {
			if k != i && !other.isAsWas() {
				t.Errorf("the list %d shows what was written to the list %d", k, i)
			}
		}
	}
}

// R3: what is handed out is new memory, and no two lists of it share any, their spare room neither: those of two jobs with one template, too.
func TestHandedOut(t *testing.T) {
	given := variables("a", "1", "b", "2", "a", "3")
	checkLists(t, func() []list {
		l, _, e := expand.Expand(apartTree(), "ci", given)
		if e != api.OK || len(l) != 4 {
			t.Fatalf("%s, %d", short(l), int(e))
		}
		return listsOfJobs(l)
	})
	checkLists(t, func() []list {
		l, _, e := expand.Heads(apartTree(), "ci")
		if e != api.OK || len(l) != 4 {
			t.Fatalf("%s, %d", short(l), int(e))
		}
		return listsOfItems(l)
	})
	// What was given shows nothing either, and no other answer does.
	l, _, _ := expand.Expand(apartTree(), "ci", given)
	other, _, _ := expand.Expand(apartTree(), "ci", given)
	for _, one := range listsOfJobs(l) {
		one.write()
	}
	if want, _, _ := declared(apartTree(), "ci", given); !sameDecls(other, want) || !slices.Equal(given, variables("a", "1", "b", "2", "a", "3")) {
		t.Errorf("what was written is shown: %s, %s", short(other), short(given))
	}
}

// R3: what is handed in is not changed, with the room behind its ends, and that room is not read.
func TestHandedIn(t *testing.T) {
	tree := append(apartTree(), files("behind", "var v $")...)
	given := variables("a", "1", "v", "2", "a", "3", "behind", "4")
	for range 2 {
		check(t, tree[:2], "ci", given[:3])
		check(t, tree[:1], "ci", given[:3])
		check(t, tree[:0], "ci", given[:0])
		check(t, tree[:2], "behind", given[:3])
		checkSubst(t, "$a$v", given[:3], "32", api.OK)
		checkSubst(t, "$a$v", given[:2], "12", api.OK)
		checkSubst(t, "$behind", given[:3], "", api.ErrName)
		checkSubst(t, "$a", given[:0], "", api.ErrName)
	}
	if !slices.Equal(tree, append(apartTree(), files("behind", "var v $")...)) || !slices.Equal(given, variables("a", "1", "v", "2", "a", "3", "behind", "4")) {
		t.Errorf("what was handed in is changed: %s, %s", short(tree), short(given))
	}
}

// R2: an answer hangs on what is asked alone.
func TestAgain(t *testing.T) {
	for range 3 {
		checkJobs(t, files("ci", "var a 1|job j|var b $a"), variables("c", "2"), "j ci 2: ; c=2, a=1, b=1")
		checkWrong(t, files("ci", "job j|var b $a"), "ci", 2, api.ErrName)
		checkWrong(t, files("ci", "include x", "x", "include ci"), "x", 1, api.ErrCycle)
		checkWrong(t, files("ci", "include x"), "ci", 1, api.ErrNone)
		checkHeads(t, files("ci", "include x", "x", "on a"), "1 on a")
		checkSubst(t, "$a", variables("a", "1"), "1", api.OK)
		checkSubst(t, "$a", nil, "", api.ErrName)
	}
}
