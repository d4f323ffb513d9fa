package desc

import (
	"strings"

	"bastion/api"
	"bastion/words"
)

// draft is a description as far as its lines have been taken in.
type draft struct {
	doc    Doc
	rules  map[string]rule
	counts map[uint8]int     // how many sections of a kind there are
	stands map[mark]struct{} // what may not stand a second time
}

// mark is what may not stand twice: words with which a line begins, within the whole (0: a section's own line), or within a section (counted from 1 on: an item).
type mark struct {
	within int
	words  string
}

func newDraft() *draft {
	return &draft{rules: rules(), counts: map[uint8]int{}, stands: map[mark]struct{}{}}
}

// read is the description of a text.
func read(text string) (Doc, error) {
	d := newDraft()
	no := 0
	for line := range strings.SplitSeq(text, "\n") {
		no++
		if err := d.read(no, line); err != nil {
			return Doc{}, fault{no: no, err: err}
		}
	}
	return d.doc, nil
}

// read takes in a line of a text, if it has words.
func (d *draft) read(no int, line string) error {
	list, e := words.Split(line)
	if e != api.OK {
		return e
	}
	if len(list) == 0 {
		return nil
	}
	return d.take(no, list)
}

// take takes in a line of these words, one or more. Its arguments are kept.
func (d *draft) take(no int, line []string) error {
	word, args := line[0], line[1:]
	r, is := d.rules[word]
	if !is || !r.mayStand(d.place(), len(args)) {
		return api.ErrForm
	}
	if err := r.asks(args); err != nil {
		return err
	}
	if r.begins != 0 {
		return d.begin(line[:r.once], Section{No: no, Kind: r.begins, Name: args[0]})
	}
	return d.add(line[:r.once], Item{No: no, Word: word, Args: args})
}

// place is where the next line stands.
func (d *draft) place() place {
	s := d.last()
	switch {
	case s == nil:
		return inHead
	case s.Kind == Template:
		return inTemplate
	case len(s.Items) == 0:
		return firstOfJob
	}
	return laterInJob
}

// last is the section that began last; nil, if none did.
func (d *draft) last() *Section {
	if len(d.doc.Sections) == 0 {
		return nil
	}
	return &d.doc.Sections[len(d.doc.Sections)-1]
}

// begin begins a section; what it is called may not stand twice.
func (d *draft) begin(called []string, s Section) error {
	if !d.isFirst(0, called) {
		return api.ErrTwice
	}
	if d.counts[s.Kind] == api.MaxJobs {
		return api.ErrFull
	}
	d.counts[s.Kind]++
	d.doc.Sections = append(d.doc.Sections, s)
	return nil
}

// add puts an item behind the others; what it is called, if anything, may not stand twice in its section.
func (d *draft) add(called []string, item Item) error {
	if len(called) > 0 && !d.isFirst(len(d.doc.Sections), called) {
		return api.ErrTwice
	}
	items := &d.doc.Head
	if s := d.last(); s != nil {
		items = &s.Items
	}
	if len(*items) == api.MaxSteps {
		return api.ErrFull
	}
	*items = append(*items, item)
	return nil
}

// isFirst tells whether these words stand for the first time; from then on they do not.
func (d *draft) isFirst(within int, called []string) bool {
	m := mark{within: within, words: strings.Join(called, " ")}
	_, is := d.stands[m]
	d.stands[m] = struct{}{}
	return !is
}
