package run

import (
	"clerestory/api"
)

// number tells the int n.
func number(n int64) api.Value {
	return api.Value{Kind: api.IntValue, Num: n}
}

// integer tells the number that v is; it ends all, unless v is an int.
func integer(v api.Value) int64 {
	must(v.Kind == api.IntValue, api.ErrKind)
	return v.Num
}

// boolean tells v; it ends all, unless v is a bool.
func boolean(v api.Value) api.Value {
	must(v.Kind == api.BoolValue, api.ErrKind)
	return v
}

// isTrue tells whether v is true; it ends all, unless v is a bool.
func isTrue(v api.Value) bool {
	return boolean(v).Num == 1
}

// slot tells where in the array the number stands that is at that place; it ends all, unless there is one.
func slot(array, at api.Value) *int64 {
	must(array.Kind == api.ArrayValue && at.Kind == api.IntValue, api.ErrKind)
	must(0 <= at.Num && at.Num < int64(len(array.Row)), api.ErrIndex)
	return &array.Row[at.Num]
}

// reckoned tells v, if there was no fault; it ends all, if there was.
func reckoned(v api.Value, fault api.Errno) api.Value {
	must(fault == api.OK, fault)
	return v
}
