package expr

import (
	"slices"

	"commissary/api"
	"commissary/value"
)

// Columns is the columns of e, as they stand in its text.
func Columns(e api.Expr) []api.Expr {
	return pick(e, func(x api.Expr) bool { return x.Kind == api.ExprCol })
}

// Aggs is the aggregates of e, as they stand in its text.
func Aggs(e api.Expr) []api.Expr {
	return pick(e, func(x api.Expr) bool { return x.Kind == api.ExprAgg })
}

// pick is what stands in e of which is holds.
func pick(e api.Expr, is func(x api.Expr) bool) []api.Expr {
	if Check(e) != api.OK {
		return nil
	}
	var picked []api.Expr
	for x := range through(e) {
		if is(x) {
			picked = append(picked, copyOf(x))
		}
	}
	return picked
}

// Safe tells whether e can't err, whatever its columns come to.
func Safe(e api.Expr) bool {
	if Check(e) != api.OK {
		return false
	}
	for x := range through(e) {
		if mayErr(x) {
			return false
		}
	}
	return true
}

func mayErr(e api.Expr) bool {
	return e.Kind == api.ExprAgg || e.Kind == api.ExprOp && api.OpAdd <= e.N && e.N <= api.OpNeg
}

// Parts is what must hold for e to hold.
func Parts(e api.Expr) []api.Expr {
	if Check(e) != api.OK {
		return nil
	}
	return parts(e)
}

func parts(e api.Expr) []api.Expr {
	if e.Kind != api.ExprOp || e.N != api.OpAnd {
		return []api.Expr{copyOf(e)}
	}
	return slices.Concat(parts(e.L[0]), parts(e.L[1]))
}

// All holds if all of l hold. Each is copied just once, however deep it comes to stand.
func All(l []api.Expr) api.Expr {
	if len(l) == 0 {
		return Lit(value.Bool(true))
	}
	all := copyOf(l[0])
	for _, e := range l[1:] {
		all = api.Expr{Kind: api.ExprOp, N: api.OpAnd, L: []api.Expr{all, copyOf(e)}}
	}
	return all
}
