package expand_test

import (
	"math/rand/v2"
	"slices"
	"strings"
	"testing"

	"bastion/api"
	"bastion/desc"
	"bastion/expand"
)

// drawnBytes is a text of any bytes, but of few kinds.
func drawnBytes(r *rand.Rand, of string) string {
	text := make([]byte, r.IntN(30))
	for i := range text {
		text[i] = of[r.IntN(len(of))]
	}
	return string(text)
}

// P13.4: a text without $ is itself; and so is one that has each $ doubled, when it is put in.
func TestNothingToPutIn(t *testing.T) {
	r := rand.New(rand.NewPCG(13, 4))
	var every []byte
	for c := range 256 {
		if c != '$' {
			every = append(every, byte(c))
		}
	}
	vars := variables("a", "1", "b", "2")
	for range 5000 {
		text := drawnBytes(r, oneOf(r, "ab{}-9 ", string(every)))
		checkSubst(t, text, vars, text, api.OK)
		text = drawnBytes(r, "$$$ab{}-9\xff")
		doubled := strings.ReplaceAll(text, "$", "$$")
		checkSubst(t, doubled, vars, text, api.OK)
		checkSubst(t, doubled, nil, text, api.OK)
		// As a value that is put in, a text is itself, doubled or not.
		checkSubst(t, "$a${b}", variables("a", text, "b", doubled), text+doubled, api.OK)
	}
	for _, text := range []string{string(every), strings.Repeat("{a}", 133), strings.Repeat("$", 400)} {
		checkSubst(t, strings.ReplaceAll(text, "$", "$$"), vars, text, api.OK)
	}
}

// withoutLines are jobs without their paths and the numbers of their lines.
func withoutLines(jobs []expand.Decl) []expand.Decl {
	var l []expand.Decl
	for _, d := range jobs {
		d.Path, d.No = "", 0
		d.Items = slices.Clone(d.Items)
		for i := range d.Items {
			d.Items[i].No = 0
		}
		l = append(l, d)
	}
	return l
}

// parse is the description of the first file at a path.
func parse(t *testing.T, tree []api.File, path string) desc.Doc {
	t.Helper()
	place := slices.IndexFunc(tree, func(f api.File) bool { return f.Path == path })
	d, no, e := desc.Parse(tree[place].Data)
	if e != api.OK {
		t.Fatalf("Parse(%q): %d, %d", tree[place].Data, no, int(e))
	}
	return d
}

// lastInclude is where in a head the last include stands.
func lastInclude(head []desc.Item) int {
	for place, item := range slices.Backward(head) {
		if item.Word == "include" {
			return place
		}
	}
	return -1
}

// P13.5: what is included could stand at its place: the head at the include, the sections ahead of the file's own. It is tried with the last include, again and again, till there is none: what other ones include stays ahead.
func TestFilesApart(t *testing.T) {
	r := rand.New(rand.NewPCG(13, 5))
	tried := 0
	for range 20000 {
		tree := drawnTree(r)
		given := variables("b", "gb", "c", "gc")
		want, _, e := expand.Expand(tree, "ci", given)
		if e != api.OK || !areOnce(t, tree, "ci", map[string]int{}) {
			continue
		}
		for {
			d := parse(t, tree, "ci")
			place := lastInclude(d.Head)
			if place < 0 {
				break
			}
			inner := parse(t, tree, d.Head[place].Args[0])
			d.Head = slices.Concat(d.Head[:place], inner.Head, d.Head[place+1:])
			d.Sections = slices.Concat(inner.Sections, d.Sections)
			text, e := desc.Print(d)
			if e != api.OK {
				t.Fatalf("Print(%s): %d", short(d), int(e))
			}
			tree = append([]api.File{{Path: "ci", Data: text}}, tree...)
			got, at, e := expand.Expand(tree, "ci", given)
			if e != api.OK || !sameDecls(withoutLines(got), withoutLines(want)) {
				t.Fatalf("with one file less: %s, %v, %d; want %s", short(got), at, int(e), short(want))
			}
			tried++
		}
	}
	if tried < 500 {
		t.Errorf("only %d includes were replaced", tried)
	}
}

// areOnce tells whether no file is asked for twice.
func areOnce(t *testing.T, tree []api.File, path string, seen map[string]int) bool {
	t.Helper()
	seen[path]++
	if seen[path] > 1 {
		return false
	}
	for _, item := range parse(t, tree, path).Head {
		if item.Word == "include" && !areOnce(t, tree, item.Args[0], seen) {
			return false
		}
	}
	return true
}

// P13.6: files that are not included change nothing, whatever they have, wherever they stand.
func TestWhatOthersDo(t *testing.T) {
	r := rand.New(rand.NewPCG(13, 6))
	given := variables("a", "1", "b", "2")
	right := 0
	for range 5000 {
		tree := drawnTree(r)
		jobs, at, e := expand.Expand(tree, "ci", given)
		heads, headsAt, headsErr := expand.Heads(tree, "ci")
		if e == api.OK {
			right++
		}
		more := slices.Clone(tree)
		for range 1 + r.IntN(4) {
			file := api.File{Path: oneOf(r, "other", "ci/x", "x/ci", "CI", "li", "lib2", ""), Data: oneOf(r, "\"", "include ci", "on y\nvar a 9\njob s00\ntemplate s00", "job A", "include other")}
			more = slices.Insert(more, r.IntN(len(more)+1), file)
		}
		// A second file at a path is not taken in either.
		more = append(more, api.File{Path: tree[r.IntN(len(tree))].Path, Data: oneOf(r, "\"", "var a 9", "job other")})
		if l, w, got := expand.Expand(more, "ci", given); !sameDecls(l, jobs) || w != at || got != e {
			t.Errorf("Expand(%s): %s, %v, %d; without others %s, %v, %d", short(more), short(l), w, int(got), short(jobs), at, int(e))
		}
		if l, w, got := expand.Heads(more, "ci"); !sameItems(l, heads) || w != headsAt || got != headsErr {
			t.Errorf("Heads(%s): %s, %v, %d; without others %s, %v, %d", short(more), short(l), w, int(got), short(heads), headsAt, int(headsErr))
		}
	}
	if right < 1000 {
		t.Errorf("only %d trees are right", right)
	}
}
