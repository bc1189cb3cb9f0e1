package expr_test

import (
	"math"
	"reflect"
	"slices"
	"strings"
	"testing"

	"commissary/api"
	"commissary/expr"
	"commissary/value"
)

// wantSame is that two expressions are the same, down to each list that is nil.
func wantSame(t *testing.T, what string, got, want any) {
	t.Helper()
	if !reflect.DeepEqual(got, want) {
		t.Errorf("%s: %+v, not %+v", what, got, want)
	}
}

// P10.1: each maker makes its kind, even of what may not be.
func TestMake(t *testing.T) {
	for _, v := range []api.Value{{}, value.Int(5), value.Int(-5), value.Text("a"), {Kind: 9, N: 3, S: "x"}} {
		wantSame(t, "Lit", expr.Lit(v), api.Expr{Kind: api.ExprLit, V: v})
	}
	for _, name := range []string{"", "a", "SELECT", "a b"} {
		wantSame(t, "Column", expr.Column(name, "b"), api.Expr{Kind: api.ExprCol, Tab: name, Col: "b"})
		wantSame(t, "Column", expr.Column("t", name), api.Expr{Kind: api.ExprCol, Tab: "t", Col: name})
	}
	for _, n := range []int{-1, 0, api.OpOr, api.OpNot, api.OpThere, 99} {
		for _, l := range [][]api.Expr{nil, {a}, {tb, op(api.OpNot, a)}, {one, a, {}}} {
			wantSame(t, "Op", expr.Op(n, l...), api.Expr{Kind: api.ExprOp, N: n, L: l})
			wantSame(t, "Agg", expr.Agg(n, l...), api.Expr{Kind: api.ExprAgg, N: n, L: l})
		}
		wantSame(t, "Op", expr.Op(n, []api.Expr{}...), api.Expr{Kind: api.ExprOp, N: n})
		wantSame(t, "Agg", expr.Agg(n, []api.Expr{}...), api.Expr{Kind: api.ExprAgg, N: n})
	}
}

// spoil changes each expression that a list of e's holds, and the room behind its end.
func spoil(e api.Expr) {
	for _, part := range e.L {
		spoil(part)
	}
	spare := e.L[:cap(e.L)]
	for i := range spare {
		spare[i] = api.Expr{Kind: 77, N: i}
	}
}

// R3: a list that the caller changes behind a call changes no answer, nor does an answer change what is asked of.
func TestApart(t *testing.T) {
	makers := []func(l ...api.Expr) api.Expr{
		func(l ...api.Expr) api.Expr { return expr.Op(api.OpAnd, l...) },
		func(l ...api.Expr) api.Expr { return expr.Agg(api.AggSum, l...) },
		func(l ...api.Expr) api.Expr { return expr.All(l) },
		func(l ...api.Expr) api.Expr { return op(api.OpOr, expr.Parts(op(api.OpAnd, l[0], l[1]))...) },
		func(l ...api.Expr) api.Expr { return op(api.OpOr, expr.Parts(l[1])...) },
		func(l ...api.Expr) api.Expr { return op(api.OpOr, expr.Aggs(op(api.OpAnd, l[0], l[1]))...) },
		func(l ...api.Expr) api.Expr { return op(api.OpOr, expr.Columns(op(api.OpAnd, l[0], l[1]))...) },
	}
	args := func() []api.Expr {
		l := make([]api.Expr, 0, 4)
		x := agg(api.AggSum, op(api.OpAdd, a, op(api.OpNeg, tb)))
		return append(l, op(api.OpOr, one, x), op(api.OpNot, agg(api.AggMin, a)))
	}
	for i, maker := range makers {
		l := args()
		got, want := maker(l...), maker(args()...)
		spoil(op(api.OpAnd, l...))
		wantSame(t, "changed behind the call", got, want)

		l = args()
		got = maker(l...)
		spare := l[:cap(l)]
		if !reflect.DeepEqual(l, args()) || spare[2].Kind != 0 || spare[3].Kind != 0 {
			t.Errorf("maker %d changes its arguments: %v", i, spare)
		}
		spoil(got)
		wantSame(t, "what was asked of, when an answer is changed", l, args())
	}
	// one expression that is handed in twice does not make two lists of an answer one
	x := op(api.OpNot, a)
	for _, got := range []api.Expr{expr.Op(api.OpAnd, x, x), expr.All([]api.Expr{x, x}), op(api.OpAnd, expr.Parts(op(api.OpAnd, x, x))...)} {
		spoil(got.L[0])
		wantSame(t, "a part's sibling", got.L[1], x)
	}
}

// P10.1: what may be, its size, its depth, its text.
func TestGood(t *testing.T) {
	for _, x := range good() {
		if e := expr.Check(x.e); e != api.OK {
			t.Errorf("Check(%s) = %d", x.text, e)
		}
		if size, depth := expr.Size(x.e), expr.Depth(x.e); size != x.size || depth != x.depth {
			t.Errorf("%s: Size %d, Depth %d, not %d, %d", x.text, size, depth, x.size, x.depth)
		}
		if got := expr.Show(x.e); got != x.text {
			t.Errorf("Show: %s, not %s", got, x.text)
		}
	}
}

// P10.1, P10.2: nothing is told of what may not be, nor of what it stands in.
func TestBad(t *testing.T) {
	for _, x := range bad() {
		for _, e := range []api.Expr{x.e, op(api.OpNot, x.e), op(api.OpAnd, a, x.e), op(api.OpAnd, x.e, a), agg(api.AggSum, x.e)} {
			if got := expr.Check(e); got != api.ErrExpr {
				t.Errorf("%s: Check: %d", x.why, got)
			}
			if size, depth, text := expr.Size(e), expr.Depth(e), expr.Show(e); size != 0 || depth != 0 || text != "" {
				t.Errorf("%s: %d, %d, %.99s", x.why, size, depth, text)
			}
			columns, aggs, parts := expr.Columns(e), expr.Aggs(e), expr.Parts(e)
			if len(columns) > 0 || len(aggs) > 0 || len(parts) > 0 || expr.Safe(e) {
				t.Errorf("%s: %d, %d, %d, %t", x.why, len(columns), len(aggs), len(parts), expr.Safe(e))
			}
		}
	}
}

// P10.1: the greatest size, the greatest depth.
func TestLimits(t *testing.T) {
	for n := 1; n <= api.MaxNodes; n++ {
		if e := sized(n); expr.Check(e) != api.OK || expr.Size(e) != n {
			t.Errorf("%d expressions: Check %d, Size %d", n, expr.Check(e), expr.Size(e))
		}
	}
	for n := 1; n <= api.MaxDepth; n++ {
		for _, left := range []bool{true, false} {
			if e := deep(n, left); expr.Check(e) != api.OK || expr.Depth(e) != n {
				t.Errorf("%d levels: Check %d, Depth %d", n, expr.Check(e), expr.Depth(e))
			}
		}
	}
	if e := shared(9); expr.Size(e) != api.MaxNodes-1 || expr.Depth(e) != 9 || len(expr.Parts(e)) != 256 {
		t.Error(expr.Size(e), expr.Depth(e), len(expr.Parts(e)))
	}
	// an aggregate counts as a level, and as an expression
	if e := agg(api.AggSum, deep(api.MaxDepth-1, false)); expr.Check(e) != api.OK || expr.Depth(e) != api.MaxDepth {
		t.Error(expr.Check(e), expr.Depth(e))
	}
	if e := agg(api.AggSum, sized(api.MaxNodes-1)); expr.Size(e) != api.MaxNodes || expr.Check(agg(api.AggSum, sized(api.MaxNodes))) != api.ErrExpr {
		t.Error(expr.Size(e))
	}
	long := lit(value.Text(strings.Repeat("'", api.MaxText)))
	all := expr.All(slices.Repeat([]api.Expr{long}, api.MaxDepth))
	if n := len(expr.Show(all)); n != api.MaxDepth*130+(api.MaxDepth-1)*len("( AND )") {
		t.Error(n)
	}
}

// P10.1: how many parts an operator has.
func TestArity(t *testing.T) {
	for _, n := range []int{math.MinInt, -1, 0, api.OpThere + 1, api.OpThere + 2, 256, 257, math.MaxInt} {
		if got := expr.Arity(n); got != 0 {
			t.Errorf("Arity(%d) = %d", n, got)
		}
	}
	want := arities()
	for n := api.OpOr; n <= api.OpThere; n++ {
		if got := expr.Arity(n); got != want[n] {
			t.Errorf("Arity(%d) = %d", n, got)
		}
	}
}

// P10.1: expressions are the same, if no part differs, whether they may be or not.
func TestSame(t *testing.T) {
	full := func() api.Expr {
		return api.Expr{Kind: 1, N: 2, V: api.Value{Kind: 3, N: 4, S: "s"}, Tab: "t", Col: "c", L: []api.Expr{op(api.OpNot, a), one}}
	}
	changes := []func(e *api.Expr){
		func(e *api.Expr) { e.Kind++ },
		func(e *api.Expr) { e.N++ },
		func(e *api.Expr) { e.V.Kind++ },
		func(e *api.Expr) { e.V.N = -e.V.N },
		func(e *api.Expr) { e.V.S = "S" },
		func(e *api.Expr) { e.Tab = "" },
		func(e *api.Expr) { e.Col = "C" },
		func(e *api.Expr) { e.Tab, e.Col = e.Col, e.Tab },
		func(e *api.Expr) { e.L = nil },
		func(e *api.Expr) { e.L = e.L[:1] },
		func(e *api.Expr) { e.L = append(e.L, api.Expr{}) },
		func(e *api.Expr) { e.L[0], e.L[1] = e.L[1], e.L[0] },
		func(e *api.Expr) { e.L[1].V.N = 7 },
		func(e *api.Expr) { e.L[0].L[0].Col = "z" },
		func(e *api.Expr) { e.L[0].L[0].N = 1 },
		func(e *api.Expr) { e.L[0].L = nil },
	}
	for i, change := range changes {
		e := full()
		change(&e)
		if expr.Same(e, full()) || expr.Same(full(), e) || expr.Same(op(api.OpOr, a, e), op(api.OpOr, a, full())) || !expr.Same(e, e) {
			t.Errorf("change %d", i)
		}
	}
	if !expr.Same(full(), full()) || !expr.Same(op(api.OpNot, full()), op(api.OpNot, full())) {
		t.Error("the same")
	}
	if !expr.Same(api.Expr{L: []api.Expr{}}, api.Expr{}) || !expr.Same(op(api.OpNot, api.Expr{}), op(api.OpNot, api.Expr{L: []api.Expr{}})) {
		t.Error("nil and the empty list")
	}
	for i, x := range good() {
		for k, y := range good() {
			alike := x.text == y.text // no two texts are one but for lists that are nil
			if got := expr.Same(x.e, y.e); got != (i == k || alike) {
				t.Errorf("Same of %s, %s: %t", x.text, y.text, got)
			}
		}
	}
	if !expr.Same(deep(1<<14, true), deep(1<<14, true)) || expr.Same(deep(1<<14, true), deep(1<<14, false)) {
		t.Error("deep ones")
	}
}
