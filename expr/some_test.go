package expr_test

import (
	"math"
	"strings"

	"commissary/api"
	"commissary/value"
)

var (
	one  = lit(value.Int(1))
	yes  = lit(value.Bool(true))
	a    = api.Expr{Kind: api.ExprCol, Col: "a"}
	tb   = api.Expr{Kind: api.ExprCol, Tab: "t", Col: "b", N: 3}
	rows = agg(api.AggRows)
)

// lit, op and agg are written out, so that the program's own are held against them.
func lit(v api.Value) api.Expr          { return api.Expr{Kind: api.ExprLit, V: v} }
func op(n int, l ...api.Expr) api.Expr  { return api.Expr{Kind: api.ExprOp, N: n, L: l} }
func agg(n int, l ...api.Expr) api.Expr { return api.Expr{Kind: api.ExprAgg, N: n, L: l} }

// sized is an expression of so many expressions, as flat as may be.
func sized(n int) api.Expr {
	switch n {
	case 1:
		return one
	case 2:
		return op(api.OpNot, a)
	}
	return op(api.OpAnd, sized((n-1)/2), sized(n-1-(n-1)/2))
}

// deep is an expression of so many levels, down its left or its right parts.
func deep(levels int, left bool) api.Expr {
	e := a
	for i := range levels - 1 {
		switch {
		case i%2 == 0:
			e = op(api.OpNeg, e)
		case left:
			e = op(api.OpAdd, e, one)
		default:
			e = op(api.OpAdd, one, e)
		}
	}
	return e
}

// shared is an expression whose two parts are one list's, down to so many levels: 2^levels - 1 expressions in little memory.
func shared(levels int) api.Expr {
	e := one
	for range levels - 1 {
		e = op(api.OpAnd, e, e)
	}
	return e
}

// endless is e whose parts are all it itself.
func endless(e api.Expr, parts int) api.Expr {
	l := make([]api.Expr, parts)
	e.L = l
	for i := range l {
		l[i] = e
	}
	return e
}

// told is an expression and what is told of it.
type told struct {
	e           api.Expr
	text        string
	size, depth int
}

// good is expressions that may be.
func good() []told {
	long := strings.Repeat("x", api.MaxName)
	return []told{
		{lit(api.Value{}), "NULL", 1, 1},
		{yes, "TRUE", 1, 1},
		{lit(value.Bool(false)), "FALSE", 1, 1},
		{lit(value.Int(0)), "0", 1, 1},
		{one, "1", 1, 1},
		{lit(value.Int(api.MaxInt)), "9007199254740991", 1, 1},
		{lit(value.Text("")), "''", 1, 1},
		{lit(value.Text("it's")), "'it''s'", 1, 1},
		{lit(value.Text(strings.Repeat("z", api.MaxText))), "'" + strings.Repeat("z", api.MaxText) + "'", 1, 1},
		{api.Expr{Kind: api.ExprLit, L: []api.Expr{}}, "NULL", 1, 1},
		{a, "a", 1, 1},
		{tb, "t.b", 1, 1},
		{api.Expr{Kind: api.ExprCol, Tab: "a", Col: "a", N: api.MaxCols - 1, L: []api.Expr{}}, "a.a", 1, 1},
		{api.Expr{Kind: api.ExprCol, Tab: long, Col: long}, long + "." + long, 1, 1},
		{api.Expr{Kind: api.ExprCol, Tab: "count", Col: "select"}, "count.select", 1, 1},
		{op(api.OpOr, a, tb), "(a OR t.b)", 3, 2},
		{op(api.OpAnd, a, tb), "(a AND t.b)", 3, 2},
		{op(api.OpNot, a), "(NOT a)", 2, 2},
		{op(api.OpEq, a, one), "(a = 1)", 3, 2},
		{op(api.OpNe, a, one), "(a <> 1)", 3, 2},
		{op(api.OpLt, a, one), "(a < 1)", 3, 2},
		{op(api.OpLe, a, one), "(a <= 1)", 3, 2},
		{op(api.OpGt, a, one), "(a > 1)", 3, 2},
		{op(api.OpGe, a, one), "(a >= 1)", 3, 2},
		{op(api.OpAdd, one, a), "(1 + a)", 3, 2},
		{op(api.OpSub, one, a), "(1 - a)", 3, 2},
		{op(api.OpMul, one, a), "(1 * a)", 3, 2},
		{op(api.OpDiv, one, a), "(1 / a)", 3, 2},
		{op(api.OpMod, one, a), "(1 % a)", 3, 2},
		{op(api.OpNeg, a), "(- a)", 2, 2},
		{op(api.OpNull, a), "(a IS NULL)", 2, 2},
		{op(api.OpThere, a), "(a IS NOT NULL)", 2, 2},
		{rows, "COUNT(*)", 1, 1},
		{api.Expr{Kind: api.ExprAgg, N: api.AggRows, L: []api.Expr{}}, "COUNT(*)", 1, 1},
		{agg(api.AggCount, a), "COUNT(a)", 2, 2},
		{agg(api.AggSum, a), "SUM(a)", 2, 2},
		{agg(api.AggMin, tb), "MIN(t.b)", 2, 2},
		{agg(api.AggMax, op(api.OpAdd, a, one)), "MAX((a + 1))", 4, 3},
		{op(api.OpLt, op(api.OpAdd, a, one), api.Expr{Kind: api.ExprCol, Col: "b"}), "((a + 1) < b)", 5, 3},
		{op(api.OpNeg, op(api.OpNeg, one)), "(- (- 1))", 3, 3},
		{op(api.OpNot, op(api.OpNull, op(api.OpNot, a))), "(NOT ((NOT a) IS NULL))", 4, 4},
		{op(api.OpAdd, agg(api.AggSum, a), rows), "(SUM(a) + COUNT(*))", 4, 3},
		{op(api.OpAnd, agg(api.AggMin, op(api.OpNeg, a)), op(api.OpNot, agg(api.AggSum, tb))), "(MIN((- a)) AND (NOT SUM(t.b)))", 7, 4},
	}
}

// odd is an expression that may not be, and why.
type odd struct {
	why string
	e   api.Expr
}

// bad is expressions that may not be.
func bad() []odd {
	l := []odd{
		{"no kind", api.Expr{}}, {"kind -1", api.Expr{Kind: -1}}, {"kind 5", api.Expr{Kind: 5, N: 1, L: []api.Expr{a}}}, {"kind 256", api.Expr{Kind: 256 + api.ExprLit}},
		{"AggRows of a part", agg(api.AggRows, a)}, {"AggCount of none", agg(api.AggCount)}, {"AggSum of none", agg(api.AggSum)}, {"AggMin of none", agg(api.AggMin)},
		{"AggMax of none", agg(api.AggMax)}, {"AggSum of two", agg(api.AggSum, a, a)}, {"many parts of an aggregate", agg(api.AggSum, make([]api.Expr, 1<<20)...)},
		{"an aggregate within one", agg(api.AggSum, agg(api.AggSum, a))}, {"rows within an aggregate", agg(api.AggSum, rows)},
		{"an aggregate deep within one", agg(api.AggMin, op(api.OpAdd, one, op(api.OpNeg, agg(api.AggMax, a))))},
		{"rows behind another part", agg(api.AggMin, op(api.OpAdd, op(api.OpNeg, a), rows))},
		{"an aggregate within the second one", op(api.OpAdd, agg(api.AggSum, a), agg(api.AggSum, op(api.OpNeg, rows)))},
		{"a part that may not be", op(api.OpNot, api.Expr{})}, {"the second part", op(api.OpAnd, a, lit(value.Int(-1)))}, {"a part of a part", op(api.OpAnd, op(api.OpNot, op(api.OpOr)), a)},
		{"an aggregate's part", agg(api.AggSum, op(api.OpNeg))}, {"many parts", op(api.OpAnd, make([]api.Expr, 1<<20)...)},
		{"MaxNodes and one", sized(api.MaxNodes + 1)}, {"MaxNodes and two", sized(api.MaxNodes + 2)}, {"20000 expressions", sized(20000)},
		{"MaxDepth and one, left", deep(api.MaxDepth+1, true)}, {"MaxDepth and one, right", deep(api.MaxDepth+1, false)}, {"MaxDepth in an aggregate", agg(api.AggSum, deep(api.MaxDepth, true))},
		{"2^14 levels, left", deep(1<<14, true)}, {"2^14 levels, right", deep(1<<14, false)},
		{"10 levels that are shared", shared(10)}, {"32 levels that are shared", shared(32)}, {"60 levels that are shared", shared(60)},
		{"its own part", endless(op(api.OpNot), 1)}, {"its own two parts", endless(op(api.OpAnd), 2)}, {"its own aggregate", endless(agg(api.AggSum), 1)}, {"a column of itself", endless(a, 1)},
	}
	return append(l, append(badFields(), append(badNumbers(), badNames()...)...)...)
}

// badFields is expressions that may not be for one field.
func badFields() []odd {
	text := value.Text("x")
	return []odd{
		{"a literal's N", api.Expr{Kind: api.ExprLit, V: text, N: 1}}, {"a literal's Tab", api.Expr{Kind: api.ExprLit, V: text, Tab: "t"}},
		{"a literal's Col", api.Expr{Kind: api.ExprLit, V: text, Col: "a"}}, {"a literal's L", api.Expr{Kind: api.ExprLit, V: text, L: []api.Expr{one}}},
		{"a column's V.Kind", api.Expr{Kind: api.ExprCol, Col: "a", V: value.Bool(false)}}, {"a column's V.N", api.Expr{Kind: api.ExprCol, Col: "a", V: api.Value{N: 1}}},
		{"a column's V.S", api.Expr{Kind: api.ExprCol, Col: "a", V: api.Value{S: "x"}}}, {"a column's L", api.Expr{Kind: api.ExprCol, Col: "a", L: []api.Expr{one}}},
		{"an operator's V.Kind", api.Expr{Kind: api.ExprOp, N: api.OpNot, V: value.Bool(false), L: []api.Expr{a}}}, {"an operator's V.N", api.Expr{Kind: api.ExprOp, N: api.OpNot, V: api.Value{N: 1}, L: []api.Expr{a}}},
		{"an operator's V.S", api.Expr{Kind: api.ExprOp, N: api.OpNot, V: api.Value{S: "x"}, L: []api.Expr{a}}}, {"an operator's Tab", api.Expr{Kind: api.ExprOp, N: api.OpNot, Tab: "t", L: []api.Expr{a}}},
		{"an operator's Col", api.Expr{Kind: api.ExprOp, N: api.OpNot, Col: "a", L: []api.Expr{a}}},
		{"an aggregate's V.Kind", api.Expr{Kind: api.ExprAgg, N: api.AggSum, V: value.Bool(false), L: []api.Expr{a}}}, {"an aggregate's V.N", api.Expr{Kind: api.ExprAgg, N: api.AggSum, V: api.Value{N: 1}, L: []api.Expr{a}}},
		{"an aggregate's V.S", api.Expr{Kind: api.ExprAgg, N: api.AggRows, V: api.Value{S: "x"}}}, {"an aggregate's Tab", api.Expr{Kind: api.ExprAgg, N: api.AggRows, Tab: "t"}},
		{"an aggregate's Col", api.Expr{Kind: api.ExprAgg, N: api.AggSum, Col: "a", L: []api.Expr{a}}},
		{"a value of kind 4", lit(api.Value{Kind: 4})}, {"a bool 2", lit(api.Value{Kind: api.KindBool, N: 2})}, {"a null with N", lit(api.Value{N: 1})}, {"a null with S", lit(api.Value{S: "x"})},
		{"-1", lit(value.Int(-1))}, {"the least int", lit(value.Int(-api.MaxInt))}, {"an int too great", lit(value.Int(api.MaxInt + 1))}, {"a text too long", lit(value.Text(strings.Repeat("x", api.MaxText+1)))},
	}
}

// badNumbers is expressions that may not be for their N, or for how many parts it asks for.
func badNumbers() []odd {
	var l []odd
	for _, n := range []int{-1, api.MaxCols, math.MinInt, math.MaxInt} {
		l = append(l, odd{"place", api.Expr{Kind: api.ExprCol, Col: "a", N: n}})
	}
	three := []api.Expr{a, a, a}
	for _, n := range []int{api.OpOr - 1, api.OpThere + 1, -1, math.MinInt, math.MaxInt} {
		for parts := range 4 {
			l = append(l, odd{"no operator", op(n, three[:parts]...)})
		}
	}
	for _, n := range []int{api.AggRows - 1, api.AggMax + 1, -1, math.MinInt, math.MaxInt} {
		for parts := range 3 {
			l = append(l, odd{"no aggregate", agg(n, three[:parts]...)})
		}
	}
	for n, arity := range arities() {
		for parts := range 4 {
			if parts != arity {
				l = append(l, odd{"parts of an operator", op(n, three[:parts]...)})
			}
		}
	}
	return l
}

// arities is how many parts each operator has.
func arities() map[int]int {
	return map[int]int{
		api.OpOr: 2, api.OpAnd: 2, api.OpNot: 1, api.OpEq: 2, api.OpNe: 2, api.OpLt: 2, api.OpLe: 2, api.OpGt: 2, api.OpGe: 2,
		api.OpAdd: 2, api.OpSub: 2, api.OpMul: 2, api.OpDiv: 2, api.OpMod: 2, api.OpNeg: 1, api.OpNull: 1, api.OpThere: 1,
	}
}

// badNames is columns whose name, or whose table's, may not be.
func badNames() []odd {
	l := []odd{{"no name", api.Expr{Kind: api.ExprCol}}, {"a table alone", api.Expr{Kind: api.ExprCol, Tab: "t"}}}
	for _, name := range []string{"SELECT", "NULL", "COUNT", strings.Repeat("x", api.MaxName+1), "1", "a b", "a.b", "é", "a ", "'a'", "--", "*"} {
		l = append(l,
			odd{"a column", api.Expr{Kind: api.ExprCol, Col: name}},
			odd{"a table's column", api.Expr{Kind: api.ExprCol, Tab: "t", Col: name}},
			odd{"a column's table", api.Expr{Kind: api.ExprCol, Tab: name, Col: "a"}})
	}
	return l
}
