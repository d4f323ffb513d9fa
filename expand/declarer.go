package expand

import (
	"slices"

	"bastion/api"
	"bastion/desc"
)

// declarer makes of sections the jobs that they declare.
type declarer struct {
	sections map[title]sectionAt
	vars     *scope // given ones, and those of all heads
}

// all are the jobs among these sections, in their row.
func (d declarer) all(sections []sectionAt) ([]Decl, Where, api.Errno) {
	var jobs []Decl
	for _, s := range sections {
		if s.Kind != desc.Job {
			continue
		}
		job, at, e := d.one(s)
		if e != api.OK {
			return nil, at, e
		}
		jobs = append(jobs, job)
	}
	return jobs, Where{}, api.OK
}

// one is the job that a section declares.
func (d declarer) one(job sectionAt) (Decl, Where, api.Errno) {
	template, at, e := d.template(job)
	if e != api.OK {
		return Decl{}, at, e
	}
	vars := d.vars.copied()
	if at, e := vars.take(slices.Concat(template.items(), job.items())); e != api.OK {
		return Decl{}, at, e
	}
	return Decl{Name: job.Name, Path: job.path, No: job.No, Items: merged(template.Items, job.Items), Vars: vars.vars}, Where{}, api.OK
}

// template is the template that a job uses; one without items, if it uses none.
func (d declarer) template(job sectionAt) (sectionAt, Where, api.Errno) {
	if len(job.Items) == 0 || job.Items[0].Word != wordUse {
		return sectionAt{}, Where{}, api.OK
	}
	use := itemAt{job.path, job.Items[0]}
	template, is := d.sections[title{kind: desc.Template, name: use.Args[0]}]
	if !is {
		return sectionAt{}, use.where(), api.ErrName
	}
	return template, Where{}, api.OK
}

// merged are a template's items that the job does not say itself, and the job's own; without var and use.
func merged(template, job []desc.Item) []desc.Item {
	var all []desc.Item
	for _, item := range template {
		if !saysItself(job, item) {
			all = added(all, item)
		}
	}
	for _, item := range job {
		all = added(all, item)
	}
	return all
}

// added puts a copy of an item behind the others: several jobs may use one template. What has been looked at by then, var and use, does not go on.
func added(items []desc.Item, item desc.Item) []desc.Item {
	if item.Word == wordVar || item.Word == wordUse {
		return items
	}
	item.Args = slices.Clone(item.Args)
	return append(items, item)
}

// saysItself tells whether a job has itself what a template's item says, and that stands once at most.
func saysItself(job []desc.Item, item desc.Item) bool {
	said := once(item)
	return said != "" && slices.ContainsFunc(job, func(own desc.Item) bool { return once(own) == said })
}

// once is what of an item stands once at most in a section; none, if it may stand again.
func once(item desc.Item) string {
	switch item.Word {
	case wordWhen, wordTries, wordLimit, wordManual:
		return item.Word
	case wordAxis:
		return wordAxis + " " + item.Args[0]
	}
	return ""
}
