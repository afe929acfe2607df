package bind

import (
	"slices"
	"strings"

	"clerestory/api"
)

// walk goes through a file; the calls of the scope where it is are its own.
type walk struct {
	*scope
	path   []int // of the node that is looked at
	number int   // how many nodes stand ahead of it
	met    []*binder
}

// nothing is what is done behind most nodes.
func nothing() {}

// throw ends all with the error, at the node that is looked at.
func (w *walk) throw(err api.Errno) {
	panic(api.Fault{Err: err, At: w.number})
}

// through has n looked at, and all that is in it, each ahead of its Kids; behind these it does what look told.
func (w *walk) through(n api.Node, look func(n api.Node) (behind func())) {
	w.number = 0
	var visit func(n api.Node)
	visit = func(n api.Node) {
		behind := look(n)
		w.number++
		for at, kid := range n.Kids {
			w.path = append(w.path, at)
			visit(kid)
			w.path = w.path[:len(w.path)-1]
		}
		behind()
	}
	visit(n)
}

// look puts down what n declares or uses, and tells what is to be done behind its Kids.
func (w *walk) look(n api.Node) (behind func()) {
	switch n.Kind {
	case api.Func:
		w.met = append(w.met, w.function(n.Text))
		return w.inner()
	case api.Block:
		return w.inner()
	case api.Param, api.Var:
		w.free(n.Text)
		b := w.binder(n)
		w.met = append(w.met, b)
		// What is in a Var itself it does not reach.
		return func() { w.declare(b) }
	case api.Name:
		w.use(w.variable(n.Text))
	case api.Call:
		w.call(n)
	}
	return nothing
}

// inner goes into a scope within the one where the walk is, and tells what leaves it.
func (w *walk) inner() (behind func()) {
	outer := w.scope
	w.scope = within(outer)
	return func() { w.scope = outer }
}

// binder tells the one that n, which is looked at, is.
func (w *walk) binder(n api.Node) *binder {
	b := &binder{Binder: api.Binder{Path: slices.Clone(w.path), Name: strings.Clone(n.Text)}}
	if n.Kind == api.Func {
		b.params = len(n.Kids[0].Kids)
	}
	return b
}

// call puts down that of a Func.
func (w *walk) call(n api.Node) {
	f := w.function(n.Text)
	if len(n.Kids) != f.params {
		w.fault(api.ErrCount)
	}
	w.use(f)
}

// use puts down that the node that is looked at stands for b.
func (w *walk) use(b *binder) {
	b.Uses = append(b.Uses, slices.Clone(w.path))
}

// told tells the binders in the order in which they were met.
func (w *walk) told() []api.Binder {
	var binders []api.Binder
	for _, b := range w.met {
		binders = append(binders, b.Binder)
	}
	return binders
}
