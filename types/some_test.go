package types_test

import (
	"math"
	"math/rand"
	"strings"

	"commissary/api"
	"commissary/value"
)

// lit, op, agg, col and of are written out, so that the program's own are held against them.
func lit(v api.Value) api.Expr          { return api.Expr{Kind: api.ExprLit, V: v} }
func op(n int, l ...api.Expr) api.Expr  { return api.Expr{Kind: api.ExprOp, N: n, L: l} }
func agg(n int, l ...api.Expr) api.Expr { return api.Expr{Kind: api.ExprAgg, N: n, L: l} }
func col(name string) api.Expr          { return api.Expr{Kind: api.ExprCol, Col: name} }
func of(tab, name string) api.Expr      { return api.Expr{Kind: api.ExprCol, Tab: tab, Col: name} }

// at is e, a column, with a place.
func at(place int, e api.Expr) api.Expr {
	e.N = place
	return e
}

// place is a column of which nothing counts but its place.
func place(n int) api.Expr { return at(n, col("x")) }

var (
	none  = lit(value.Null())
	yes   = lit(value.Bool(true))
	one   = lit(value.Int(1))
	word  = lit(value.Text("w"))
	rows  = agg(api.AggRows)
	a     = col("a")
	ta    = of("t", "a")
	ub    = of("u", "b")
	kinds = []int{api.KindNull, api.KindBool, api.KindInt, api.KindText}
)

// typed is columns of which the one at place n has the type n.
func typed() []api.Column {
	return []api.Column{{Name: "n", Type: api.KindNull}, {Tab: "t", Name: "b", Type: api.KindBool}, {Tab: "t", Name: "i", Type: api.KindInt}, {Tab: "u", Name: "s", Type: api.KindText}}
}

// ofKind is expressions of a type among the columns typed.
func ofKind(kind int) []api.Expr {
	return [][]api.Expr{
		{none, place(api.KindNull), agg(api.AggMin, none), agg(api.AggMax, place(api.KindNull))},
		{yes, place(api.KindBool), op(api.OpNot, none), op(api.OpLt, one, one), op(api.OpNull, rows), agg(api.AggMax, yes)},
		{one, place(api.KindInt), op(api.OpNeg, none), op(api.OpMul, one, none), rows, agg(api.AggSum, none), agg(api.AggCount, word), agg(api.AggMin, one)},
		{word, place(api.KindText), agg(api.AggMin, word), agg(api.AggMax, place(api.KindText))},
	}[kind]
}

// wide is n columns that are called c0, c1 and so on, of the table t.
func wide(n int) []api.Column {
	l := make([]api.Column, n)
	for i := range l {
		l[i] = api.Column{Tab: "t", Name: nth(i), Type: api.KindBool + i%3}
	}
	return l
}

func nth(i int) string {
	digits := "0123456789"
	if i < len(digits) {
		return "c" + digits[i:i+1]
	}
	return nth(i/len(digits)) + digits[i%len(digits):i%len(digits)+1]
}

// sized is an expression of so many expressions, as flat as may be.
func sized(n int) api.Expr {
	switch n {
	case 1:
		return a
	case 2:
		return op(api.OpNot, a)
	}
	return op(api.OpAnd, sized((n-1)/2), sized(n-1-(n-1)/2))
}

// deep is an expression of so many levels.
func deep(levels int) api.Expr {
	e := a
	for range levels - 1 {
		e = op(api.OpNot, e)
	}
	return e
}

// endless is e whose parts are all it itself.
func endless(e api.Expr, parts int) api.Expr {
	l := make([]api.Expr, parts)
	e.L = l
	for i := range l {
		l[i] = e
	}
	return e
}

// bad is expressions that may not be.
func bad() []api.Expr {
	long := strings.Repeat("x", api.MaxName+1)
	l := []api.Expr{
		{}, {Kind: -1}, {Kind: 5, L: []api.Expr{a}}, {Kind: api.ExprCol}, {Kind: api.ExprCol, Tab: "t"}, {Kind: math.MinInt}, {Kind: math.MaxInt},
		{Kind: api.ExprCol, Col: "a", L: []api.Expr{a}}, {Kind: api.ExprCol, Col: "a", V: value.Int(1)}, {Kind: api.ExprOp, N: api.OpNot, L: []api.Expr{a}, Col: "a"}, {Kind: api.ExprAgg, N: api.AggRows, Tab: "t"},
		lit(value.Int(-1)), lit(value.Int(api.MaxInt + 1)), lit(api.Value{Kind: 9}), lit(value.Text(strings.Repeat("x", api.MaxText+1))), {Kind: api.ExprLit, N: 1},
		col(""), col("SELECT"), col("a b"), col(long), of("SUM", "a"), of(long, "a"), of("t", "1"), place(-1), place(api.MaxCols), place(math.MinInt), place(math.MaxInt),
		op(api.OpNot), op(api.OpAdd, a), op(api.OpAdd, a, a, a), op(api.OpNull, a, a), op(0, a), op(api.OpThere+1, a), op(api.OpThere+1, a, a), op(-1, a),
		agg(api.AggRows, a), agg(api.AggSum), agg(api.AggMin, a, a), agg(0, a), agg(api.AggMax+1, a), agg(api.AggSum, rows), agg(api.AggMin, op(api.OpNeg, agg(api.AggMax, a))),
		sized(api.MaxNodes + 1), sized(1 << 15), deep(api.MaxDepth + 1), deep(1 << 14),
		endless(op(api.OpNot), 1), endless(op(api.OpAnd), 2), endless(agg(api.AggMin), 1),
	}
	for _, e := range l {
		l = append(l, op(api.OpNot, e), op(api.OpEq, e, a), op(api.OpEq, a, e), agg(api.AggMin, e))
	}
	return l
}

// draw is an expression of so many levels at most, whose columns are drawn by column; aggregates stand in it, if agged.
func draw(r *rand.Rand, levels int, agged bool, column func() api.Expr) api.Expr {
	literals := []api.Expr{none, yes, one, word, one, lit(value.Bool(false))}
	kind := r.Intn(8)
	switch {
	case kind == 0 || levels == 1 && kind < 3:
		return literals[r.Intn(len(literals))]
	case kind < 3 || levels == 1:
		return column()
	case kind == 3 && agged:
		if n := api.AggRows + r.Intn(5); n != api.AggRows {
			return agg(n, draw(r, levels-1, false, column))
		}
		return rows
	}
	n := api.OpOr + r.Intn(api.OpThere)
	if n == api.OpNot || n >= api.OpNeg {
		return op(n, draw(r, levels-1, agged, column))
	}
	return op(n, draw(r, levels-1, agged, column), draw(r, levels-1, agged, column))
}
