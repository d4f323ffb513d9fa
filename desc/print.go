package desc

import (
	"strings"

	"bastion/api"
	"bastion/words"
)

// indent stands ahead of a section's items.
const indent = "  "

// printer writes a description line by line. A draft takes each line in, so that what Parse would refuse is refused.
type printer struct {
	to    strings.Builder
	draft *draft
}

// write is a text of a description.
func write(d Doc) (string, error) {
	p := printer{draft: newDraft()}
	if err := p.items("", d.Head); err != nil {
		return "", err
	}
	for _, s := range d.Sections {
		if err := p.section(s); err != nil {
			return "", err
		}
	}
	return p.to.String(), nil
}

func (p *printer) section(s Section) error {
	word := wordOf(s.Kind)
	if word == "" {
		return api.ErrArg
	}
	if err := p.line("", []string{word, s.Name}, s.Kind); err != nil {
		return err
	}
	return p.items(indent, s.Items)
}

func (p *printer) items(ahead string, items []Item) error {
	for _, item := range items {
		if err := p.line(ahead, append([]string{item.Word}, item.Args...), 0); err != nil {
			return err
		}
	}
	return nil
}

// line writes a line that is to begin a section of this kind; 0: one that is to be an item.
func (p *printer) line(ahead string, list []string, begins uint8) error {
	line, e := words.Join(list)
	if e != api.OK || len(ahead)+len(line) > api.MaxLine {
		return api.ErrTooLarge
	}
	// It would be read as what it is not.
	if p.draft.rules[list[0]].begins != begins {
		return api.ErrForm
	}
	if err := p.draft.take(0, list); err != nil {
		return err
	}
	p.to.WriteString(ahead + line + "\n")
	return nil
}
