package tree

import (
	"slices"
	"strings"

	"clerestory/api"
)

// through has visit called with the first row, and with each that visit goes on to below it.
// Beyond MaxNest rows wait instead: what is no right tree may be deeper than the stack can bear.
func through[T any](first T, visit func(row T, below func(T))) {
	waiting := []T{first}
	deep := 0
	var down func(T)
	down = func(row T) {
		if deep == api.MaxNest {
			waiting = append(waiting, row)
			return
		}
		deep++
		visit(row, down)
		deep--
	}
	for len(waiting) > 0 {
		last := len(waiting) - 1
		row := waiting[last]
		waiting = waiting[:last]
		down(row)
	}
}

// each calls do with all of the nodes, and with all that are in them, each ahead of its Kids.
func each(nodes []api.Node, do func(*api.Node)) {
	through(nodes, func(row []api.Node, below func([]api.Node)) {
		for i := range row {
			do(&row[i])
			below(row[i].Kids)
		}
	})
}

// copied tells n once more, in new memory.
func copied(n api.Node) api.Node {
	whole := []api.Node{n}
	each(whole, func(n *api.Node) {
		n.Text = strings.Clone(n.Text)
		if len(n.Kids) == 0 {
			n.Kids = nil
			return
		}
		n.Kids = slices.Clone(n.Kids)
	})
	return whole[0]
}
