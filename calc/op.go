package calc

import (
	"commissary/api"
	"commissary/value"
)

// ofOne is what the operator op makes of one value.
func ofOne(op int, v api.Value) (api.Value, api.Errno) {
	switch op {
	case api.OpNot:
		return value.Of(value.Not(value.Truth(v))), api.OK
	case api.OpNull:
		return value.Bool(isNull(v)), api.OK
	case api.OpThere:
		return value.Bool(!isNull(v)), api.OK
	}
	return ofTwo(api.OpSub, value.Int(0), v)
}

// ofTwo is what the operator op makes of two values.
func ofTwo(op int, a, b api.Value) (api.Value, api.Errno) {
	switch op {
	case api.OpAdd:
		return reckon(a, b, sum)
	case api.OpSub:
		return reckon(a, b, func(a, b int) (int, bool) { return a - b, true })
	case api.OpMul:
		return reckon(a, b, product)
	case api.OpDiv:
		return reckon(a, b, unlessZero(func(a, b int) int { return a / b }))
	case api.OpMod:
		return reckon(a, b, unlessZero(func(a, b int) int { return a % b }))
	}
	return value.Of(truthOf(op, a, b)), api.OK
}

// truthOf is the truth that the operator op makes of two values.
func truthOf(op int, a, b api.Value) int {
	switch op {
	case api.OpOr:
		return value.Or(value.Truth(a), value.Truth(b))
	case api.OpAnd:
		return value.And(value.Truth(a), value.Truth(b))
	case api.OpEq:
		return value.Equal(a, b)
	case api.OpNe:
		return value.Not(value.Equal(a, b))
	case api.OpLt:
		return value.Less(a, b)
	case api.OpLe:
		return value.Not(value.Less(b, a))
	case api.OpGt:
		return value.Less(b, a)
	}
	return value.Not(value.Less(a, b))
}

// reckon is the int that become makes of two. A part that is no number errs even beside a null.
func reckon(a, b api.Value, become func(a, b int) (int, bool)) (api.Value, api.Errno) {
	if isWrong(a) || isWrong(b) {
		return api.Value{}, api.ErrArith
	}
	if isNull(a) || isNull(b) {
		return value.Null(), api.OK
	}
	n, ok := become(a.N, b.N)
	v := value.Int(n)
	if !ok || value.Check(v) != api.OK {
		return api.Value{}, api.ErrArith
	}
	return v, api.OK
}

// isWrong tells whether v can't be reckoned with.
func isWrong(v api.Value) bool {
	return value.Check(v) != api.OK || v.Kind != api.KindInt && !isNull(v)
}

func isNull(v api.Value) bool {
	return v.Kind == api.KindNull
}

func sum(a, b int) (int, bool) {
	return a + b, true
}

// product asks ahead whether it is beyond MaxInt, as it may be beyond what an int of Go holds, too.
func product(a, b int) (int, bool) {
	if a != 0 && max(b, -b) > api.MaxInt/max(a, -a) {
		return 0, false
	}
	return a * b, true
}

// unlessZero is become, where b is not 0.
func unlessZero(become func(a, b int) int) func(a, b int) (int, bool) {
	return func(a, b int) (int, bool) {
		if b == 0 {
			return 0, false
		}
		return become(a, b), true
	}
}
