package types

import (
	"slices"

	"commissary/api"
	"commissary/expr"
)

// Type is the type of e, whose columns have places among cols.
func Type(e api.Expr, cols []api.Column) (int, api.Errno) {
	if no := expr.Check(e); no != api.OK {
		return 0, no
	}
	kind, err := typeOf(e, cols)
	return kind, number(err)
}

// typeOf asks the parts ahead of e itself, as the first error is the one that is told.
func typeOf(e api.Expr, cols []api.Column) (int, error) {
	parts, err := each(e.L, func(part api.Expr) (int, error) { return typeOf(part, cols) })
	if err != nil {
		return 0, err
	}
	switch e.Kind {
	case api.ExprLit:
		return e.V.Kind, nil
	case api.ExprCol:
		return columnType(e.N, cols)
	case api.ExprAgg:
		return aggType(e.N, parts)
	}
	return opType(e.N, parts)
}

// columnType does not ask whether the type at a place is a kind, as tables and trees do that
// for the columns that they have.
func columnType(place int, cols []api.Column) (int, error) {
	if place >= len(cols) {
		return 0, refusal{api.ErrName}
	}
	return cols[place].Type, nil
}

// aggType is the type of an aggregate of a part of a type.
func aggType(agg int, parts []int) (int, error) {
	switch agg {
	case api.AggSum:
		return only(api.KindInt, parts)
	case api.AggMin, api.AggMax:
		return parts[0], nil
	}
	return api.KindInt, nil
}

// opType is the type of an operator of parts of types.
func opType(op int, parts []int) (int, error) {
	switch op {
	case api.OpOr, api.OpAnd, api.OpNot:
		return only(api.KindBool, parts)
	case api.OpAdd, api.OpSub, api.OpMul, api.OpDiv, api.OpMod, api.OpNeg:
		return only(api.KindInt, parts)
	case api.OpNull, api.OpThere:
		return api.KindBool, nil
	}
	return compared(parts[0], parts[1])
}

// only is a type, if all parts are of it.
func only(kind int, parts []int) (int, error) {
	other := func(part int) bool { return !goesFor(part, kind) }
	if slices.ContainsFunc(parts, other) {
		return 0, refusal{api.ErrType}
	}
	return kind, nil
}

// compared is the type of what holds two things of types against each other.
func compared(a, b int) (int, error) {
	if goesFor(a, b) || goesFor(b, a) {
		return api.KindBool, nil
	}
	return 0, refusal{api.ErrType}
}

// goesFor tells whether a part's type does where kind is asked: null does for all.
func goesFor(part, kind int) bool {
	return part == kind || part == api.KindNull
}
