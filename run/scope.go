package run

import (
	"slices"

	"clerestory/api"
)

// scope is the variables of one call.
type scope struct {
	names  []string               // of those that are there, in the order in which they came
	values map[string][]api.Value // of each name what its variables are, the nearest last
}

// empty tells a scope without variables.
func empty() scope {
	return scope{values: map[string][]api.Value{}}
}

// declare has a variable of the name be there, and be v.
func (s *scope) declare(name string, v api.Value) {
	s.names = append(s.names, name)
	s.values[name] = append(s.values[name], own(v))
}

// nearest tells where it stands what the nearest variable of the name is.
func (s *scope) nearest(name string) *api.Value {
	hidden := s.values[name]
	return &hidden[len(hidden)-1]
}

// leave ends all variables but so many that were there first.
func (s *scope) leave(first int) {
	for _, name := range s.names[first:] {
		s.values[name] = s.values[name][:len(s.values[name])-1]
	}
	s.names = s.names[:first]
}

// own tells v as a value of its own: none that is written to shares its numbers.
func own(v api.Value) api.Value {
	v.Row = slices.Clone(v.Row)
	return v
}
