package desc

import (
	"strconv"

	"bastion/api"
	"bastion/glob"
)

// The words with which sections begin.
const (
	wordTemplate = "template"
	wordJob      = "job"
)

// wordOf is the word with which sections of a kind begin; none, if there is no such kind.
func wordOf(kind uint8) string {
	switch kind {
	case Template:
		return wordTemplate
	case Job:
		return wordJob
	}
	return ""
}

// place is where a line stands; several places are one number, put together by |.
type place uint8

const (
	inHead place = 1 << iota
	inTemplate
	firstOfJob
	laterInJob

	inSection = inTemplate | firstOfJob | laterInJob
	anywhere  = inHead | inSection
)

// many is more arguments than a line has room for.
const many = api.MaxLine

// rule is what a word asks of the line that it begins.
type rule struct {
	begins      uint8 // the kind of section that it begins; 0: none, it is an item
	at          place // where it may stand
	least, most int   // how many arguments there may be
	asks        func(args []string) error
	once        int // so many words, from the line's first one on, tell what may not stand twice; 0: it may
}

// rules are what all words ask.
func rules() map[string]rule {
	name := each(Name, api.ErrName)
	path := each(Path, api.ErrForm)
	pattern := each(isPattern, api.ErrForm)
	return map[string]rule{
		wordTemplate: {begins: Template, at: anywhere, least: 1, most: 1, asks: name, once: 2},
		wordJob:      {begins: Job, at: anywhere, least: 1, most: 1, asks: name, once: 2},
		"include":    {at: inHead, least: 1, most: 1, asks: path},
		"on":         {at: inHead, least: 1, most: many, asks: pattern},
		"paths":      {at: inHead, least: 1, most: many, asks: pattern},
		"var":        {at: anywhere, least: 2, most: 2, asks: named(anything)},
		"use":        {at: firstOfJob, least: 1, most: 1, asks: name},
		"needs":      {at: inSection, least: 1, most: many, asks: name},
		"tags":       {at: inSection, least: 1, most: many, asks: name},
		"axis":       {at: inSection, least: 2, most: many, asks: named(each(isWord, api.ErrForm)), once: 2},
		"when":       {at: inSection, least: 1, most: many, asks: anything, once: 1},
		"do":         {at: inSection, least: 1, most: many, asks: anything},
		"tries":      {at: inSection, least: 1, most: 1, asks: number(api.MaxTries), once: 1},
		"limit":      {at: inSection, least: 1, most: 1, asks: number(api.MaxTicks), once: 1},
		"manual":     {at: inSection, asks: anything, once: 1},
		"keep":       {at: inSection, least: 1, most: many, asks: pattern},
	}
}

// mayStand tells whether a line may stand at this place, with so many arguments.
func (r rule) mayStand(at place, args int) bool {
	return r.at&at != 0 && args >= r.least && args <= r.most
}

func anything([]string) error { return nil }

// each asks that all arguments are of a kind; if one is not, it is this error.
func each(isOf func(s string) bool, e api.Errno) func(args []string) error {
	return func(args []string) error {
		for _, arg := range args {
			if !isOf(arg) {
				return e
			}
		}
		return nil
	}
}

// named asks for a name, and for something of what stands behind it.
func named(asks func(args []string) error) func(args []string) error {
	return func(args []string) error {
		if !Name(args[0]) {
			return api.ErrName
		}
		return asks(args[1:])
	}
}

// number asks for numbers from 1 to most.
func number(most int) func(args []string) error {
	return each(func(s string) bool {
		n, err := strconv.Atoi(s)
		// A number has one form alone: no + ahead, no noughts.
		return err == nil && n >= 1 && n <= most && strconv.Itoa(n) == s
	}, api.ErrArg)
}

func isPattern(s string) bool { return glob.Check(s) == api.OK }
