package calc_test

import (
	"math"
	"math/big"
	"math/rand"
	"strings"

	"commissary/api"
	"commissary/value"
)

// Expressions are written out, so that the program's own are held against them.
func lit(v api.Value) api.Expr          { return api.Expr{Kind: api.ExprLit, V: v} }
func op(n int, l ...api.Expr) api.Expr  { return api.Expr{Kind: api.ExprOp, N: n, L: l} }
func agg(n int, l ...api.Expr) api.Expr { return api.Expr{Kind: api.ExprAgg, N: n, L: l} }

// place is a column of which nothing counts but its place.
func place(n int) api.Expr { return api.Expr{Kind: api.ExprCol, Tab: "q", Col: "x", N: n} }

func num(n int) api.Value            { return value.Int(n) }
func text(s string) api.Value        { return value.Text(s) }
func row(l ...api.Value) []api.Value { return l }

var (
	null = value.Null()
	yes  = value.Bool(true)
	no   = value.Bool(false)
	one  = lit(num(1))
	// wrong errs, whatever the row
	wrong = op(api.OpDiv, one, lit(num(0)))
	rows  = agg(api.AggRows)
)

// strange is values that may not be.
func strange() []api.Value {
	return []api.Value{
		{N: 1}, {S: "x"}, {Kind: api.KindBool, N: 2}, {Kind: api.KindBool, N: -1}, {Kind: api.KindBool, S: "x"}, {Kind: api.KindBool, N: 1, S: "x"},
		num(api.MaxInt + 1), num(-api.MaxInt - 1), num(math.MaxInt), num(math.MinInt), {Kind: api.KindInt, N: 1, S: "x"},
		{Kind: api.KindText, N: 1}, text(strings.Repeat("x", api.MaxText+1)), {Kind: 4}, {Kind: 4, N: 1}, {Kind: -1}, {Kind: 256 + api.KindInt, N: 1}, {Kind: math.MinInt}, {Kind: math.MaxInt, S: "x"},
	}
}

// sound is values that may be.
func sound() []api.Value {
	return []api.Value{null, no, yes, num(0), num(1), num(-1), num(2), num(-7), num(api.MaxInt), num(-api.MaxInt), text(""), text("a"), text("b"), text("1"), text("TRUE"), text(strings.Repeat("z", api.MaxText))}
}

// numbers is ints at and near the edges of sums and products.
func numbers() []int {
	l := []int{0, 1, 2, 3, 7, 10, 94906265, 94906266, 94906267, 1 << 26, 1<<26 + 1, 1 << 27, 1<<32 - 1, 1 << 32, 3037000500, 1 << 52, 1<<52 - 1, api.MaxInt / 3, api.MaxInt / 2, api.MaxInt - 1, api.MaxInt}
	for _, n := range l {
		l = append(l, -n)
	}
	return l
}

// sized is an expression of so many expressions, as flat as may be.
func sized(n int) api.Expr {
	switch n {
	case 1:
		return lit(yes)
	case 2:
		return op(api.OpNot, lit(no))
	}
	return op(api.OpAnd, sized((n-1)/2), sized(n-1-(n-1)/2))
}

// deep is an expression of so many levels.
func deep(levels int) api.Expr {
	e := place(0)
	for range levels - 1 {
		e = op(api.OpNot, e)
	}
	return e
}

// endless is e whose parts are all it itself.
func endless(e api.Expr, parts int) api.Expr {
	l := make([]api.Expr, parts)
	e.L = l
	for i := range l {
		l[i] = e
	}
	return e
}

// bad is expressions that may not be.
func bad() []api.Expr {
	l := []api.Expr{
		{}, {Kind: -1}, {Kind: 5, L: []api.Expr{one}}, {Kind: api.ExprCol}, {Kind: math.MaxInt}, {Kind: api.ExprCol, Col: "a", L: []api.Expr{one}}, {Kind: api.ExprLit, N: 1},
		lit(num(-1)), lit(num(api.MaxInt + 1)), lit(api.Value{Kind: 9}), place(-1), place(api.MaxCols), {Kind: api.ExprCol, Col: "SELECT"},
		op(api.OpNot), op(api.OpAdd, one), op(api.OpAdd, one, one, one), op(api.OpNull, one, one), op(0, one), op(api.OpThere+1, one), op(api.OpThere+1, one, one), op(-1, one),
		agg(api.AggRows, one), agg(api.AggSum), agg(0, one), agg(api.AggMax+1, one), agg(api.AggSum, rows),
		sized(api.MaxNodes + 1), sized(1 << 15), deep(api.MaxDepth + 1), deep(1 << 14), endless(op(api.OpNot), 1), endless(op(api.OpAnd), 2), endless(agg(api.AggMin), 1),
	}
	for _, e := range l {
		l = append(l, op(api.OpNot, e), op(api.OpAnd, lit(no), e), op(api.OpOr, lit(yes), e), op(api.OpAdd, e, wrong), op(api.OpAdd, rows, e))
	}
	return l
}

// aggregated is expressions that may be, in which an aggregate stands.
func aggregated() []api.Expr {
	l := []api.Expr{rows, agg(api.AggCount, one), agg(api.AggSum, one), agg(api.AggMin, wrong), agg(api.AggMax, place(0))}
	for _, e := range l[:5] {
		l = append(l, op(api.OpNull, e), op(api.OpAnd, lit(no), e), op(api.OpOr, lit(yes), e), op(api.OpAdd, e, wrong), op(api.OpAdd, wrong, e), op(api.OpAnd, e, lit(no)),
			op(api.OpNot, op(api.OpEq, op(api.OpNeg, one), op(api.OpNull, e))))
	}
	return l
}

// draw is an expression of so many levels at most; nothing is asked of the types of its parts.
func draw(r *rand.Rand, levels int) api.Expr {
	literals := []api.Value{null, yes, no, num(0), num(1), num(3), num(api.MaxInt), text(""), text("a")}
	kind := r.Intn(6)
	if levels == 1 || kind == 0 {
		if r.Intn(2) == 0 {
			return lit(literals[r.Intn(len(literals))])
		}
		return place(r.Intn(5))
	}
	n := api.OpOr + r.Intn(api.OpThere)
	if kind == 1 {
		n = api.OpOr + r.Intn(2)
	}
	if n == api.OpNot || n >= api.OpNeg {
		return op(n, draw(r, levels-1))
	}
	return op(n, draw(r, levels-1), draw(r, levels-1))
}

// answer is what an expression is to come to, or that it errs.
type answer struct {
	v    api.Value
	errs bool
}

func err() answer { return answer{errs: true} }

// truthOf is a truth as a value, told apart by whether it is known.
func truthOf(is, known bool) answer {
	if !known {
		return answer{v: null}
	}
	return answer{v: value.Bool(is)}
}

// plain is what e comes to, of a row of values that may be, counted in another way.
func plain(e api.Expr, r []api.Value) answer {
	switch e.Kind {
	case api.ExprLit:
		return answer{v: e.V}
	case api.ExprCol:
		if e.N < len(r) {
			return answer{v: r[e.N]}
		}
		return answer{v: null}
	}
	a := plain(e.L[0], r)
	if a.errs || e.N == api.OpAnd && a.v == no || e.N == api.OpOr && a.v == yes {
		return a
	}
	switch e.N {
	case api.OpNot:
		return truthOf(a.v == no, a.v.Kind == api.KindBool)
	case api.OpNull:
		return truthOf(a.v == null, true)
	case api.OpThere:
		return truthOf(a.v != null, true)
	case api.OpNeg:
		return plainSum(api.OpSub, num(0), a.v)
	}
	b := plain(e.L[1], r)
	if b.errs {
		return b
	}
	if api.OpEq <= e.N && e.N <= api.OpGe {
		return plainOrder(e.N, a.v, b.v)
	}
	if e.N == api.OpAnd {
		return truthOf(a.v == yes && b.v == yes, b.v == no || a.v == yes && b.v == yes)
	}
	if e.N == api.OpOr {
		return truthOf(a.v == yes || b.v == yes, b.v == yes || a.v == no && b.v == no)
	}
	return plainSum(e.N, a.v, b.v)
}

func plainOrder(n int, a, b api.Value) answer {
	known := a != null && b != null
	alike := a.Kind == b.Kind
	same := a == b
	less := func(a, b api.Value) bool { return alike && (a.N < b.N || a.N == b.N && a.S < b.S) }
	switch n {
	case api.OpEq:
		return truthOf(same, known)
	case api.OpNe:
		return truthOf(!same, known)
	case api.OpLt:
		return truthOf(less(a, b), known)
	case api.OpLe:
		return truthOf(!less(b, a), known)
	case api.OpGt:
		return truthOf(less(b, a), known)
	}
	return truthOf(!less(a, b), known)
}

func plainSum(n int, a, b api.Value) answer {
	for _, v := range []api.Value{a, b} {
		if v.Kind == api.KindBool || v.Kind == api.KindText {
			return err()
		}
	}
	if a == null || b == null {
		return answer{v: null}
	}
	x, y, z := big.NewInt(int64(a.N)), big.NewInt(int64(b.N)), new(big.Int)
	if b.N == 0 && (n == api.OpDiv || n == api.OpMod) {
		return err()
	}
	switch n {
	case api.OpAdd:
		z.Add(x, y)
	case api.OpSub:
		z.Sub(x, y)
	case api.OpMul:
		z.Mul(x, y)
	case api.OpDiv:
		z.Quo(x, y)
	case api.OpMod:
		z.Rem(x, y)
	}
	if z.CmpAbs(big.NewInt(api.MaxInt)) > 0 {
		return err()
	}
	return answer{v: num(int(z.Int64()))}
}
