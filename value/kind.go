package value

import (
	"slices"
	"strconv"
	"strings"

	"clerestory/api"
)

// number tells the int n.
func number(n int64) api.Value {
	return api.Value{Kind: api.IntValue, Num: n}
}

// truth tells the bool that says whether something holds.
func truth(holds bool) api.Value {
	v := api.Value{Kind: api.BoolValue}
	if holds {
		v.Num = 1
	}
	return v
}

func isInt(v api.Value) bool {
	return v.Kind == api.IntValue
}

func isBool(v api.Value) bool {
	return v.Kind == api.BoolValue
}

// same tells whether two values are.
func same(a, b api.Value) bool {
	return a.Kind == b.Kind && a.Num == b.Num && slices.Equal(a.Row, b.Row)
}

// text tells the text of one value.
func text(v api.Value) string {
	switch {
	case !Right(v):
		return "?"
	case isInt(v):
		return digits(v.Num)
	case isBool(v):
		return strconv.FormatBool(v.Num == 1)
	}
	numbers := make([]string, 0, len(v.Row))
	for _, n := range v.Row {
		numbers = append(numbers, digits(n))
	}
	return "[" + joined(numbers...) + "]"
}

func digits(n int64) string {
	return strconv.FormatInt(n, 10)
}

// joined tells the texts, with a blank between.
func joined(texts ...string) string {
	return strings.Join(texts, " ")
}
