package expand

import (
	"maps"
	"slices"

	"bastion/api"
)

// scope is the variables that there are, each name once.
type scope struct {
	vars   []api.Var
	places map[string]int // where in vars a name stands
}

// scopeOf is a scope of these variables: of one name the last one's value, at the first one's place.
func scopeOf(vars []api.Var) *scope {
	s := &scope{places: map[string]int{}}
	for _, v := range vars {
		s.set(v)
	}
	return s
}

func (s *scope) copied() *scope {
	return &scope{vars: slices.Clone(s.vars), places: maps.Clone(s.places)}
}

func (s *scope) value(name string) (string, bool) {
	place, is := s.places[name]
	if !is {
		return "", false
	}
	return s.vars[place].Value, true
}

// set puts a variable in the place of that of its name; else behind all others.
func (s *scope) set(v api.Var) {
	if place, is := s.places[v.Name]; is {
		s.vars[place] = v
		return
	}
	s.places[v.Name] = len(s.vars)
	s.vars = append(s.vars, v)
}

// take sets, one by one, the variables of those of the items that are a var.
func (s *scope) take(items []itemAt) (Where, api.Errno) {
	for _, item := range items {
		if item.Word != wordVar {
			continue
		}
		value, e := put(item.Args[1], s.value)
		if e != api.OK {
			return item.where(), e
		}
		s.set(api.Var{Name: item.Args[0], Value: value})
	}
	return Where{}, api.OK
}
