package files_test

import (
	"slices"
	"sync"
	"testing"

	"bastion/api"
	"bastion/files"
)

const apartText = "a/b 1|a/c 2|b 3|c 4"

// answers are what the calls answer whose lists are handed out, of trees that stay whole among them.
func answers(l, none []api.File) [][]api.File {
	put, _ := files.Put(l, "b", "3")
	more, _ := files.Put(l, "a/a", "0")
	last, _ := files.Del(l, "c")
	first, _ := files.Del(l, "a/b")
	under, _ := files.Lay(l, none)
	over, _ := files.Lay(none, l)
	self, _ := files.Lay(l, l)
	both, _ := files.Lay(l, l[2:])
	return [][]api.File{put, more, last, first, under, over, self, both, files.Pick(l, []string{"**"}), files.Pick(l, []string{"a*/*"})}
}

var wantAnswers = []string{
	apartText, "a/a 0|" + apartText, "a/b 1|a/c 2|b 3", "a/c 2|b 3|c 4", apartText, apartText, apartText, apartText, apartText, "a/b 1|a/c 2",
}

// write writes all over a list, with its spare room.
func write(l []api.File) {
	l = l[:cap(l)]
	for i := range l {
		l[i] = api.File{Path: "written", Data: "written"}
	}
}

func checkAnswers(t *testing.T, what string, got [][]api.File) {
	t.Helper()
	for i, l := range got {
		checkTree(t, what, l, api.OK, tree(wantAnswers[i]), api.OK)
	}
}

// R3: what was handed in, and other answers, show nothing of what is written to an answer, nor to its spare room.
func TestHandedOut(t *testing.T) {
	for i := range wantAnswers {
		l := tree(apartText)
		none := make([]api.File, 0, 8)
		got, other := answers(l, none), answers(l, none)
		write(got[i])
		got[i] = tree(wantAnswers[i])
		checkAnswers(t, "another answer", got)
		checkAnswers(t, "an answer ahead", other)
		checkAnswers(t, "an answer behind", answers(l, none))
		if !slices.Equal(l, tree(apartText)) || slices.ContainsFunc(none[:8], func(f api.File) bool { return f != api.File{} }) {
			t.Errorf("what was handed in shows what was written: %s, %s", short(l), short(none[:8]))
		}
	}
}

// R3: answers show nothing of what is written afterwards to what was handed in.
func TestNotKept(t *testing.T) {
	l := tree(apartText)
	none := make([]api.File, 0, 8)
	got := answers(l, none)
	write(l)
	write(none)
	checkAnswers(t, "an answer", got)
}

// R3: the room behind the end of what is handed in is not read, and not written to.
func TestRoomBehind(t *testing.T) {
	all := tree(apartText + "|a/b|a/|a/b/c|d 5|e 6")
	l, none := all[:4], all[7:7]
	for range 2 {
		checkCheck(t, l, api.OK)
		checkAnswers(t, "with room behind", answers(l, none))
		checkPut(t, l, "d", "6", tree(apartText+"|d 6"), api.OK)
		checkLay(t, l, none, tree(apartText), api.OK)
		checkGet(t, l, "d", "", false)
		checkDel(t, l, "d", nil, api.ErrNone)
		if files.Size(l) != 4 || !files.Same(l, tree(apartText)) {
			t.Errorf("Size, or Same, with room behind: %d", files.Size(l))
		}
	}
	patterns := []string{"c", "**"}
	checkPick(t, l, patterns[:1], tree("c 4"))
	if !slices.Equal(patterns, []string{"c", "**"}) || !slices.Equal(all, tree(apartText+"|a/b|a/|a/b/c|d 5|e 6")) {
		t.Errorf("what was handed in is changed: %s, %q", short(all), patterns)
	}
}

// R2: an answer hangs on what is asked alone, at one time too.
func TestAgain(t *testing.T) {
	l := tree(apartText)
	var all sync.WaitGroup
	for range 4 {
		all.Go(func() {
			for range 50 {
				checkAnswers(t, "again", answers(l, nil))
				checkPut(t, l, "a", "", nil, api.ErrState)
				checkDel(t, l, "a", nil, api.ErrNone)
				checkLay(t, l, tree("b|a"), nil, api.ErrForm)
				checkCheck(t, tree("a|a-b|a/b"), api.ErrState)
			}
		})
	}
	all.Wait()
}
