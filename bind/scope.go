package bind

import (
	"clerestory/api"
)

// binder is one, with the uses that were met so far.
type binder struct {
	api.Binder
	params int // how many a Func has
}

// around is what a scope asks of the one around it.
type around interface {
	// variable tells the nearest Param or Var of the name.
	variable(name string) *binder
	// function tells the Func of the name.
	function(name string) *binder
	// fault ends all with an error at the node that is looked at.
	fault(err api.Errno)
}

// file is the scope around all others, in which no variable stands.
type file struct {
	functions map[string]*binder
	tell      func(err api.Errno) // it does not come back
}

func (f *file) variable(string) *binder {
	f.fault(api.ErrName)
	return nil
}

func (f *file) function(name string) *binder {
	b := f.functions[name]
	if b == nil {
		f.fault(api.ErrName)
	}
	return b
}

func (f *file) fault(err api.Errno) {
	f.tell(err)
}

// add has the Func b stand for its name, all over the file.
func (f *file) add(b *binder) {
	if f.functions[b.Name] != nil {
		f.fault(api.ErrTwice)
	}
	f.functions[b.Name] = b
}

// scope is that of a Block, or of a Func's Params; the calls of the one around it are its own.
type scope struct {
	around
	own map[string]*binder
}

// within tells a scope, with nothing of its own, within another one.
func within(outer around) *scope {
	return &scope{around: outer, own: map[string]*binder{}}
}

// variable hides what the scope around has, if the name is one of its own.
func (s *scope) variable(name string) *binder {
	if b := s.own[name]; b != nil {
		return b
	}
	return s.around.variable(name)
}

// free ends all, if the name is one of its own.
func (s *scope) free(name string) {
	if s.own[name] != nil {
		s.fault(api.ErrTwice)
	}
}

// declare has b stand for its name from here on.
func (s *scope) declare(b *binder) {
	s.own[b.Name] = b
}
