package expand

import (
	"bastion/api"
	"bastion/desc"
)

// The words of items that this layer tells apart.
const (
	wordInclude = "include"
	wordOn      = "on"
	wordPaths   = "paths"
	wordVar     = "var"
	wordUse     = "use"
	wordWhen    = "when"
	wordTries   = "tries"
	wordLimit   = "limit"
	wordManual  = "manual"
	wordAxis    = "axis"
)

// itemAt is an item of the file at a path.
type itemAt struct {
	path string
	desc.Item
}

func (i itemAt) where() Where { return Where{Path: i.path, Line: i.No} }

// sectionAt is a section of the file at a path.
type sectionAt struct {
	path string
	desc.Section
}

func (s sectionAt) where() Where { return Where{Path: s.path, Line: s.No} }

// items are its items, each with the path.
func (s sectionAt) items() []itemAt {
	var all []itemAt
	for _, item := range s.Items {
		all = append(all, itemAt{s.path, item})
	}
	return all
}

// whole is what came of a file and of all that it includes.
type whole struct {
	head     []itemAt // without include
	sections []sectionAt
}

// title is what a section is called.
type title struct {
	kind uint8
	name string
}

// byName are all sections, by their titles; an error, if two have the same one, or there are too many.
func (w whole) byName() (map[title]sectionAt, Where, api.Errno) {
	all := map[title]sectionAt{}
	counts := map[uint8]int{}
	for _, s := range w.sections {
		t := title{kind: s.Kind, name: s.Name}
		if _, is := all[t]; is {
			return nil, s.where(), api.ErrTwice
		}
		if counts[s.Kind] == api.MaxJobs {
			return nil, s.where(), api.ErrFull
		}
		counts[s.Kind]++
		all[t] = s
	}
	return all, Where{}, api.OK
}
