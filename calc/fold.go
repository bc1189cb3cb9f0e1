package calc

import (
	"slices"

	"commissary/api"
	"commissary/value"
)

// Fold is the aggregate agg of l.
func Fold(agg int, l []api.Value) (api.Value, api.Errno) {
	there := slices.DeleteFunc(slices.Clone(l), isNull)
	switch agg {
	case api.AggRows:
		return value.Int(len(l)), api.OK
	case api.AggCount:
		return value.Int(len(there)), api.OK
	case api.AggSum:
		if slices.ContainsFunc(there, isWrong) {
			return api.Value{}, api.ErrArith
		}
		return fold(there, func(a, b api.Value) (api.Value, api.Errno) { return reckon(a, b, sum) })
	case api.AggMin:
		return fold(there, better(func(order int) bool { return order < 0 }))
	case api.AggMax:
		return fold(there, better(func(order int) bool { return order > 0 }))
	}
	return api.Value{}, api.ErrArg
}

// fold is all of l made one, from the first two on; null, if there are none.
func fold(l []api.Value, become func(a, b api.Value) (api.Value, api.Errno)) (api.Value, api.Errno) {
	if len(l) == 0 {
		return value.Null(), api.OK
	}
	made := l[0]
	for _, v := range l[1:] {
		next, no := become(made, v)
		if no != api.OK {
			return api.Value{}, no
		}
		made = next
	}
	return made, api.OK
}

// better is the one of two values whose order to the other is wanted.
func better(wanted func(order int) bool) func(a, b api.Value) (api.Value, api.Errno) {
	return func(a, b api.Value) (api.Value, api.Errno) {
		if wanted(value.Compare(b, a)) {
			return b, api.OK
		}
		return a, api.OK
	}
}
