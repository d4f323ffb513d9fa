package files_test

import (
	"slices"
	"strings"
	"testing"

	"bastion/api"
)

// P17.2, example 2.
func TestLay(t *testing.T) {
	for _, c := range []struct{ a, b, want string }{
		{"a/b x|c z", "a y", "a y|c z"},
		{"", "", ""},
		{"a x", "", "a x"},
		{"", "a x", "a x"},
		{"a x", "a y", "a y"},
		{"a x|b y", "b z", "a x|b z"},
		{"b x", "a y|c z", "a y|b x|c z"},
		{"a y|c z", "b x", "a y|b x|c z"},
		{"a x", "a/b y", "a/b y"},
		{"a x|c z", "a/b y|a/c z", "a/b y|a/c z|c z"},
		{"a/b 1|a/c/d 2|a/e 3|b 4", "a x", "a x|b 4"},
		{"a/b 1|a/c/d 2|a/e 3|b 4", "a/c x", "a/b 1|a/c x|a/e 3|b 4"},
		{"a/b 1|a/c 2", "a/b/c/d x", "a/b/c/d x|a/c 2"},
		{"a-b 1|a.b 2|a/b 3|a0 4", "a x", "a x|a-b 1|a.b 2|a0 4"},
		{"a 1|a-b 2|a0 3", "a/b x", "a-b 2|a/b x|a0 3"},
		{"a 1", "a-b|a.b|a/b", "a-b|a.b|a/b"},
		{"a/b 1|aa 2", "a-b x|ab y", "a-b x|a/b 1|aa 2|ab y"},
		{"b/c 1", "b/a x|b/d y", "b/a x|b/c 1|b/d y"},
	} {
		checkLay(t, tree(c.a), tree(c.b), tree(c.want), api.OK)
	}
}

// The table of errors: either of the two is no tree.
func TestLayNoTree(t *testing.T) {
	for _, l := range [][]api.File{tree("b|a"), tree("a|a"), tree("a|a/b"), tree("a|a-b|a/b"), {{}}, tree("a b|a/"), many(65, 0), many(1, 4097), many(64, 257)} {
		for _, other := range [][]api.File{nil, tree("a"), tree("a/b x|c"), many(64, 256), l} {
			checkLay(t, l, other, nil, api.ErrForm)
			checkLay(t, other, l, nil, api.ErrForm)
		}
	}
}

// The table of errors: too many files, or bytes, of what is laid, not of both together.
func TestLayFull(t *testing.T) {
	half, other := many(64, 0)[:32], many(64, 0)[32:]
	checkLay(t, half, other, many(64, 0), api.OK)
	checkLay(t, other, half, many(64, 0), api.OK)
	checkLay(t, many(64, 0), tree("g"), nil, api.ErrFull)
	checkLay(t, tree("g"), many(64, 0), nil, api.ErrFull)
	checkLay(t, many(64, 256), many(64, 256), many(64, 256), api.OK)
	checkLay(t, many(64, 256), many(64, 0), many(64, 0), api.OK)
	checkLay(t, many(4, 4096), tree("g x"), nil, api.ErrFull)
	checkLay(t, tree("g x"), many(4, 4096), nil, api.ErrFull)
	checkLay(t, tree("f10000/a x|f10003/b y"), many(4, 4096), many(4, 4096), api.OK)
	checkLay(t, many(4, 4096), tree("f10000/a x"), append(tree("f10000/a x"), many(4, 4096)[1:]...), api.OK)
	var folder []api.File
	for _, f := range many(64, 256) {
		folder = append(folder, api.File{Path: "g/" + f.Path, Data: f.Data})
	}
	checkLay(t, folder, []api.File{{Path: "g", Data: strings.Repeat("x", 4096)}}, []api.File{{Path: "g", Data: strings.Repeat("x", 4096)}}, api.OK)
	checkLay(t, tree("g x"), folder, folder, api.OK)
	checkLay(t, folder[:63], tree("a|b"), nil, api.ErrFull)
	checkLay(t, folder[:63], tree("a"), append(tree("a"), folder[:63]...), api.OK)
	checkLay(t, folder[:63], []api.File{{Path: "a", Data: strings.Repeat("x", 257)}}, nil, api.ErrFull)
	checkLay(t, many(64, 257)[:63], []api.File{{Path: "a", Data: strings.Repeat("x", 194)}}, nil, api.ErrFull)
	checkLay(t, many(64, 257)[:63], []api.File{{Path: "a", Data: strings.Repeat("x", 193)}}, slices.Insert(many(63, 257), 0, api.File{Path: "a", Data: strings.Repeat("x", 193)}), api.OK)
}

// P17.2: in order, whatever list it is, each file as often as it stands there.
func TestPick(t *testing.T) {
	for _, c := range []struct {
		l        string
		patterns []string
		want     string
	}{
		{"a/b 1|c 2|c-d 3", []string{"c*"}, "c 2|c-d 3"},
		{"a/b 1|c 2|c-d 3", []string{"**"}, "a/b 1|c 2|c-d 3"},
		{"a/b 1|c 2|c-d 3", []string{"*"}, "c 2|c-d 3"},
		{"a/b 1|c 2|c-d 3", []string{"c", "a/?"}, "a/b 1|c 2"},
		{"a/b 1|c 2|c-d 3", []string{"c", "c", "c*"}, "c 2|c-d 3"},
		{"a/b 1|c 2|c-d 3", []string{"1", "a", "b", "C"}, ""},
		{"a/b 1|c 2|c-d 3", nil, ""},
		{"", []string{"**"}, ""},
		{"c 1|a 2|c 3|a/b 4", []string{"c", "a"}, "c 1|a 2|c 3"},
		{"a 1| 2|a b|/ 3", []string{"**"}, "a 1| 2|a b|/ 3"},
		// What is no pattern matches none, and is in the way of no other one.
		{"a|b", []string{"", "a b", strings.Repeat("*", 65)}, ""},
		{"a|b", []string{"", "b", strings.Repeat("*", 65)}, "b"},
	} {
		checkPick(t, tree(c.l), c.patterns, tree(c.want))
	}
	checkPick(t, many(200, 1), []string{"f1000?", "f101*"}, append(many(10, 1), many(200, 1)[100:]...))
}
