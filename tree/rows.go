package tree

import (
	"slices"

	"clerestory/api"
	"clerestory/lex"
)

// Kinds of no node, far from those of nodes: each stands for some.
const (
	expression api.NodeKind = 200 + iota
	statement
	place // of a Set
	more  // any number of what stands ahead of it
)

// row is the kinds of the Kids of a node, in order.
type row []api.NodeKind

// rows tells which Kids a node of each Kind has.
func rows() map[api.NodeKind]row {
	return map[api.NodeKind]row{
		api.File:   {api.Func, more},
		api.Func:   {api.Params, api.Block},
		api.Params: {api.Param, more},
		api.Param:  {},
		api.Block:  {statement, more},
		api.Var:    {expression},
		api.Set:    {place, expression},
		api.If:     {expression, api.Block, api.Block},
		api.While:  {expression, api.Block},
		api.Return: {expression},
		api.Print:  {expression},
		api.Do:     {api.Call},
		api.Int:    {},
		api.Bool:   {},
		api.Name:   {},
		api.Unary:  {expression},
		api.Binary: {expression, expression},
		api.Call:   {expression, more},
		api.Index:  {expression, expression},
		api.Array:  {expression, expression},
		api.Length: {expression},
		api.Read:   {},
	}
}

// endless tells whether any number of Kids may stand in the row.
func (r row) endless() bool {
	return len(r) > 0 && r[len(r)-1] == more
}

// fits tells whether a kid of this Kind may stand at that place.
func (r row) fits(kid api.NodeKind, at int) bool {
	if r.endless() {
		r = r[:len(r)-1]
		at = min(at, len(r)-1)
	}
	return at >= 0 && at < len(r) && standsFor(r[at], kid)
}

// holds tells whether so many Kids may stand in the row.
func (r row) holds(count int) bool {
	return r.endless() || count == len(r)
}

// standsFor tells whether a kid is of the Kind that is wanted, or of one of those that this stands for.
func standsFor(wanted, kid api.NodeKind) bool {
	switch wanted {
	case expression:
		return api.Int <= kid && kid <= api.Read
	case statement:
		return api.Block <= kid && kid <= api.Do
	case place:
		return kid == api.Name || kid == api.Index
	}
	return kid == wanted
}

// kidsRight tells whether the Kids of n, if they are right, may stand in it.
func kidsRight(table map[api.NodeKind]row, n api.Node) bool {
	r, known := table[n.Kind]
	if !known || !r.holds(len(n.Kids)) {
		return false
	}
	for at, kid := range n.Kids {
		if !r.fits(kid.Kind, at) {
			return false
		}
	}
	return n.Kind != api.Set || placeRight(n.Kids[0])
}

// placeRight tells of a Name or an Index whether a Set may change it.
func placeRight(n api.Node) bool {
	return n.Kind == api.Name || len(n.Kids) > 0 && n.Kids[0].Kind == api.Name
}

// bearsName tells whether the Text of such a node is a name.
func bearsName(k api.NodeKind) bool {
	switch k {
	case api.Func, api.Param, api.Var, api.Name, api.Call:
		return true
	}
	return false
}

// textRight tells whether the Text of n is one of its Kind.
func textRight(n api.Node) bool {
	switch {
	case bearsName(n.Kind):
		return lex.Name(n.Text)
	case n.Kind == api.Unary:
		return n.Text == "-" || n.Text == "!"
	case n.Kind == api.Binary:
		return slices.Contains([]string{"||", "&&", "==", "!=", "<", "<=", ">", ">=", "+", "-", "*", "/", "%"}, n.Text)
	}
	return n.Text == ""
}

// numRight tells whether the Num of n is one of its Kind.
func numRight(n api.Node) bool {
	switch n.Kind {
	case api.Int:
		return n.Num >= 0
	case api.Bool:
		return n.Num == 0 || n.Num == 1
	}
	return n.Num == 0
}
