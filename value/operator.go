package value

import (
	"slices"

	"clerestory/api"
)

// operator is what a sign stands for: which values, of those that are right, it takes as operands, and what it makes of them.
type operator struct {
	takes func(v api.Value) bool
	makes func(operands ...api.Value) api.Value
}

// unaries tells what the signs ahead of one operand stand for.
func unaries() map[string]operator {
	return map[string]operator{
		"-": {isInt, func(operands ...api.Value) api.Value { return number(-operands[0].Num) }},
		"!": {isBool, func(operands ...api.Value) api.Value { return truth(operands[0].Num == 0) }},
	}
}

// binaries tells what the signs between two operands stand for.
func binaries() map[string]operator {
	return map[string]operator{
		"||": judges(isBool, func(a, b api.Value) bool { return a.Num == 1 || b.Num == 1 }),
		"&&": judges(isBool, func(a, b api.Value) bool { return a.Num == 1 && b.Num == 1 }),
		"==": judges(Right, same),
		"!=": judges(Right, func(a, b api.Value) bool { return !same(a, b) }),
		"<":  judges(isInt, func(a, b api.Value) bool { return a.Num < b.Num }),
		"<=": judges(isInt, func(a, b api.Value) bool { return a.Num <= b.Num }),
		">":  judges(isInt, func(a, b api.Value) bool { return a.Num > b.Num }),
		">=": judges(isInt, func(a, b api.Value) bool { return a.Num >= b.Num }),
		"+":  counts(func(a, b int64) int64 { return a + b }),
		"-":  counts(func(a, b int64) int64 { return a - b }),
		"*":  counts(func(a, b int64) int64 { return a * b }),
		"/":  counts(func(a, b int64) int64 { return a / divisor(b) }),
		"%":  counts(func(a, b int64) int64 { return a % divisor(b) }),
	}
}

// judges tells an operator that makes a bool of two operands: whether that holds of them.
func judges(takes func(v api.Value) bool, holds func(a, b api.Value) bool) operator {
	return operator{takes, func(operands ...api.Value) api.Value { return truth(holds(operands[0], operands[1])) }}
}

// counts tells an operator that makes an int of two ints.
func counts(result func(a, b int64) int64) operator {
	return operator{isInt, func(operands ...api.Value) api.Value { return number(result(operands[0].Num, operands[1].Num)) }}
}

// reckoned tells what the sign makes of the operands, or the error that a panic brought.
func reckoned(signs map[string]operator, sign string, operands ...api.Value) (told api.Value, err api.Errno) {
	defer func() {
		if fault, thrown := recover().(api.Errno); thrown {
			told, err = api.Value{}, fault
		}
	}()
	o, known := signs[sign]
	must(known && all(Right, operands...), api.ErrArg)
	must(all(o.takes, operands...), api.ErrKind)
	return o.makes(operands...), api.OK
}

// must ends all with the error, unless what must hold does.
func must(holds bool, otherwise api.Errno) {
	if !holds {
		panic(otherwise)
	}
}

// divisor tells n, by which may be divided; it ends all, if it is 0.
func divisor(n int64) int64 {
	must(n != 0, api.ErrDivide)
	return n
}

// all tells whether that holds of each of the values.
func all(holds func(v api.Value) bool, values ...api.Value) bool {
	return !slices.ContainsFunc(values, func(v api.Value) bool { return !holds(v) })
}
