package expand

import (
	"bastion/api"
	"bastion/desc"
)

// stage is how far a file has been taken in; 0: not at all.
type stage uint8

const (
	underWay stage = 1 + iota
	taken
)

// taker takes files of a tree in.
type taker struct {
	whole
	tree   []api.File
	places map[string]int // where in the tree the first file at a path stands
	stages map[string]stage
}

// takeIn takes the file at a path in.
func takeIn(tree []api.File, path string) (whole, Where, api.Errno) {
	t := taker{tree: tree, places: firsts(tree), stages: map[string]stage{}}
	if at, e := t.take(path, Where{Path: path}, 1); e != api.OK {
		return whole{}, at, e
	}
	return t.whole, Where{}, api.OK
}

func firsts(tree []api.File) map[string]int {
	places := map[string]int{}
	for place, file := range tree {
		if _, is := places[file.Path]; !is {
			places[file.Path] = place
		}
	}
	return places
}

// take takes the file at a path in, if it was not yet; asked is where that is asked for, depth how many files are within one another there, this one with them.
func (t *taker) take(path string, asked Where, depth int) (Where, api.Errno) {
	place, is := t.places[path]
	switch {
	case !is:
		return asked, api.ErrNone
	case t.stages[path] == taken:
		return Where{}, api.OK
	case t.stages[path] == underWay:
		return asked, api.ErrCycle
	case depth > MaxDepth:
		return asked, api.ErrDeep
	}
	doc, no, e := desc.Parse(t.tree[place].Data)
	if e != api.OK {
		return Where{Path: path, Line: no}, e
	}
	t.stages[path] = underWay
	if at, e := t.takeHead(path, doc.Head, depth); e != api.OK {
		return at, e
	}
	for _, section := range doc.Sections {
		t.sections = append(t.sections, sectionAt{path, section})
	}
	t.stages[path] = taken
	return Where{}, api.OK
}

// takeHead takes the items of a file's head in, and at the place of an include that file.
func (t *taker) takeHead(path string, head []desc.Item, depth int) (Where, api.Errno) {
	for _, item := range head {
		i := itemAt{path, item}
		if item.Word != wordInclude {
			t.head = append(t.head, i)
			continue
		}
		if at, e := t.take(item.Args[0], i.where(), depth+1); e != api.OK {
			return at, e
		}
	}
	return Where{}, api.OK
}
