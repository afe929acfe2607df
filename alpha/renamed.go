package alpha

import (
	"strings"

	"clerestory/api"
	"clerestory/tree"
)

// paths lead to nodes of one tree.
type paths [][]int

// each has do called with the node that each of them leads to, from the top on.
func (p paths) each(top *api.Node, do func(n *api.Node)) {
	for _, path := range p {
		n := top
		for _, at := range path {
			n = &n.Kids[at]
		}
		do(n)
	}
}

// renamed is a tree whose nodes at the paths, a binder and its uses, are to bear another name.
type renamed struct {
	paths
	top api.Node
}

// renamedAt tells n, to be renamed at the paths, in new memory: what is written into it is not the caller's.
func renamedAt(n api.Node, at ...[]int) *renamed {
	top, _ := tree.Get(n)
	return &renamed{paths: at, top: top}
}

// bear has the nodes bear the name.
func (r *renamed) bear(name string) {
	r.each(&r.top, func(n *api.Node) { n.Text = strings.Clone(name) })
}
