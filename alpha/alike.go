package alpha

import (
	"slices"

	"clerestory/api"
	"clerestory/bind"
)

// held tells whether two rows are as long, and what stands at one place of both is the same in each of the ways.
func held[T any](a, b []T, ways ...func(a, b T) bool) bool {
	return slices.EqualFunc(a, b, func(a, b T) bool {
		for _, same := range ways {
			if !same(a, b) {
				return false
			}
		}
		return true
	})
}

// alike tells whether two programs are.
func alike(a, b api.Node) bool {
	return held([]api.Node{a}, []api.Node{b}, sameSelf, sameKids) &&
		held(bind.Binders(a), bind.Binders(b), samePath, sameUses)
}

// sameSelf tells whether two nodes are the same but for their names and their Kids.
func sameSelf(a, b api.Node) bool {
	return a.Kind == b.Kind && a.Num == b.Num && (a.Text == b.Text || bearsName(a.Kind))
}

// bearsName tells whether the Text of such a node is a name.
func bearsName(k api.NodeKind) bool {
	switch k {
	case api.Func, api.Param, api.Var, api.Name, api.Call:
		return true
	}
	return false
}

// sameKids tells whether the Kids of two nodes are the same but for names, with all that is in them.
func sameKids(a, b api.Node) bool {
	return held(a.Kids, b.Kids, sameSelf, sameKids)
}

func samePath(a, b api.Binder) bool {
	return slices.Equal(a.Path, b.Path)
}

func sameUses(a, b api.Binder) bool {
	return held(a.Uses, b.Uses, slices.Equal[[]int])
}
