package expr_test

import (
	"math/rand"
	"slices"
	"testing"

	"commissary/api"
	"commissary/expr"
	"commissary/value"
)

func column(col string) api.Expr { return api.Expr{Kind: api.ExprCol, Col: col} }

func wantList(t *testing.T, what string, got []api.Expr, want ...api.Expr) {
	t.Helper()
	if !slices.EqualFunc(got, want, expr.Same) {
		t.Errorf("%s: %+v, not %+v", what, got, want)
	}
}

// P10.2: columns as they stand in the text, each as often, with their tables and places.
func TestColumns(t *testing.T) {
	b := column("b")
	for _, x := range []struct {
		e    api.Expr
		want []api.Expr
	}{
		{one, nil}, {rows, nil}, {op(api.OpNot, yes), nil}, {a, []api.Expr{a}}, {tb, []api.Expr{tb}},
		{op(api.OpAdd, a, a), []api.Expr{a, a}},
		{op(api.OpAdd, b, op(api.OpSub, a, b)), []api.Expr{b, a, b}},
		{op(api.OpAdd, op(api.OpSub, tb, a), op(api.OpNeg, b)), []api.Expr{tb, a, b}},
		{op(api.OpEq, agg(api.AggSum, op(api.OpMul, b, tb)), op(api.OpAdd, a, agg(api.AggCount, b))), []api.Expr{b, tb, a, b}},
	} {
		wantList(t, expr.Show(x.e), expr.Columns(x.e), x.want...)
	}
}

// P10.2: aggregates as they stand in the text, each as often, with their parts.
func TestAggs(t *testing.T) {
	sum, least := agg(api.AggSum, op(api.OpMul, a, tb)), agg(api.AggMin, a)
	for _, x := range []struct {
		e    api.Expr
		want []api.Expr
	}{
		{one, nil}, {a, nil}, {op(api.OpNeg, a), nil}, {rows, []api.Expr{rows}}, {sum, []api.Expr{sum}},
		{op(api.OpAdd, sum, sum), []api.Expr{sum, sum}},
		{op(api.OpAdd, least, op(api.OpSub, rows, op(api.OpNeg, least))), []api.Expr{least, rows, least}},
		{op(api.OpAdd, op(api.OpSub, sum, a), least), []api.Expr{sum, least}},
	} {
		wantList(t, expr.Show(x.e), expr.Aggs(x.e), x.want...)
	}
}

// P10.2: which operators may err, wherever they stand.
func TestSafe(t *testing.T) {
	for n, arity := range arities() {
		e := op(n, []api.Expr{a, one}[:arity]...)
		want := n < api.OpAdd || n > api.OpNeg
		for _, e := range []api.Expr{e, op(api.OpNot, e), op(api.OpAnd, a, e), op(api.OpOr, op(api.OpNull, e), a)} {
			if got := expr.Safe(e); got != want {
				t.Errorf("Safe(%s) = %t", expr.Show(e), got)
			}
		}
	}
	for _, e := range []api.Expr{one, yes, a, tb, lit(api.Value{}), sized(api.MaxNodes)} {
		if !expr.Safe(e) {
			t.Errorf("Safe(%s)", expr.Show(e))
		}
	}
	for _, e := range []api.Expr{rows, agg(api.AggCount, a), agg(api.AggSum, a), agg(api.AggMin, a), agg(api.AggMax, a), op(api.OpThere, rows), op(api.OpOr, a, agg(api.AggMin, one))} {
		if expr.Safe(e) {
			t.Errorf("Safe(%s)", expr.Show(e))
		}
	}
}

// P10.2: parts of Ands on either side; of all else it alone.
func TestParts(t *testing.T) {
	b, c, d := column("b"), column("c"), column("d")
	and := func(x, y api.Expr) api.Expr { return op(api.OpAnd, x, y) }
	either := op(api.OpOr, and(a, b), and(c, d))
	for _, x := range []struct {
		e    api.Expr
		want []api.Expr
	}{
		{a, []api.Expr{a}}, {yes, []api.Expr{yes}}, {rows, []api.Expr{rows}}, {either, []api.Expr{either}}, {op(api.OpNot, and(a, b)), []api.Expr{op(api.OpNot, and(a, b))}},
		{and(a, b), []api.Expr{a, b}}, {and(a, a), []api.Expr{a, a}},
		{and(and(a, b), c), []api.Expr{a, b, c}}, {and(a, and(b, c)), []api.Expr{a, b, c}},
		{and(and(a, b), and(c, d)), []api.Expr{a, b, c, d}}, {and(and(a, and(b, c)), d), []api.Expr{a, b, c, d}},
		{and(either, and(op(api.OpNot, and(c, d)), yes)), []api.Expr{either, op(api.OpNot, and(c, d)), yes}},
		{agg(api.AggMin, and(a, b)), []api.Expr{agg(api.AggMin, and(a, b))}},
	} {
		wantList(t, expr.Show(x.e), expr.Parts(x.e), x.want...)
	}
}

// P10.2: All of none, of one, of many, and of such as may not be.
func TestAll(t *testing.T) {
	for _, l := range [][]api.Expr{nil, {}} {
		wantSame(t, "All of none", expr.All(l), yes)
	}
	for _, e := range []api.Expr{{}, {Kind: -9}, {Kind: api.ExprLit, N: 5, Tab: "t"}, op(api.OpOr, a), agg(api.AggSum, rows), sized(api.MaxNodes + 1)} {
		wantSame(t, "one that may not be", expr.All([]api.Expr{e}), e)
	}
	wantSame(t, "one", expr.All([]api.Expr{tb}), tb)
	wantSame(t, "an And", expr.All([]api.Expr{op(api.OpAnd, a, tb)}), op(api.OpAnd, a, tb))
	wantSame(t, "two", expr.All([]api.Expr{a, tb}), op(api.OpAnd, a, tb))
	wantSame(t, "three", expr.All([]api.Expr{a, tb, one}), op(api.OpAnd, op(api.OpAnd, a, tb), one))
	wantSame(t, "an And behind", expr.All([]api.Expr{a, op(api.OpAnd, tb, one)}), op(api.OpAnd, a, op(api.OpAnd, tb, one)))
	wantSame(t, "none that may be", expr.All([]api.Expr{{}, {Kind: 9}}), op(api.OpAnd, api.Expr{}, api.Expr{Kind: 9}))
	if e := expr.All(slices.Repeat([]api.Expr{a}, api.MaxDepth)); expr.Depth(e) != api.MaxDepth || expr.Size(e) != 2*api.MaxDepth-1 {
		t.Error(expr.Depth(e), expr.Size(e))
	}
	if e := expr.All(slices.Repeat([]api.Expr{a}, api.MaxDepth+1)); expr.Check(e) != api.ErrExpr {
		t.Error("an All that is too deep")
	}
	if e := expr.All(slices.Repeat([]api.Expr{a}, 1<<16)); expr.Check(e) != api.ErrExpr || len(e.L) != 2 {
		t.Error("an All that is much too deep")
	}
}

// drawn is an expression of at most so many levels that may be, with odd texts and names. Aggregates stand in it, if agged.
func drawn(r *rand.Rand, levels int, agged bool) api.Expr {
	values := []api.Value{{}, value.Bool(false), value.Bool(true), value.Int(0), value.Int(1), value.Text(""), value.Text("a"), value.Text("'"), value.Text("' = '"), value.Text("a) AND (a"), value.Text("1"), value.Text("TRUE")}
	names := []string{"a", "b", "a_", "as", "null", "IS_"}
	kind := r.Intn(7)
	switch {
	case levels == 1 && kind < 3 || kind == 0:
		return lit(values[r.Intn(len(values))])
	case levels == 1 || kind == 1:
		tab := append(names, "", "")[r.Intn(len(names)+2)]
		return api.Expr{Kind: api.ExprCol, Tab: tab, Col: names[r.Intn(len(names))], N: r.Intn(api.MaxCols)}
	case kind == 2 && agged:
		if n := api.AggRows + r.Intn(5); n != api.AggRows {
			return agg(n, drawn(r, levels-1, false))
		}
		return rows
	}
	n := api.OpOr + r.Intn(api.OpThere)
	if r.Intn(3) == 0 {
		n = api.OpAnd
	}
	var l []api.Expr
	for range arities()[n] {
		l = append(l, drawn(r, levels-1, agged))
	}
	return op(n, l...)
}

// visit hands each expression of e on, those that stand ahead in its text first, as plainly as may be.
func visit(e api.Expr, f func(api.Expr)) {
	f(e)
	for _, part := range e.L {
		visit(part, f)
	}
}

func levels(e api.Expr) int {
	n := 0
	for _, part := range e.L {
		n = max(n, levels(part))
	}
	return n + 1
}

// P10.1, P10.2: what is told of any expression that may be, held against what stands in it.
func TestDrawn(t *testing.T) {
	r := rand.New(rand.NewSource(1))
	for range 5000 {
		e := drawn(r, 1+r.Intn(8), true)
		var columns, aggs []api.Expr
		size, safe := 0, true
		visit(e, func(x api.Expr) {
			size++
			switch {
			case x.Kind == api.ExprCol:
				columns = append(columns, x)
			case x.Kind == api.ExprAgg:
				aggs = append(aggs, x)
				safe = false
			case x.Kind == api.ExprOp && slices.Contains([]int{api.OpAdd, api.OpSub, api.OpMul, api.OpDiv, api.OpMod, api.OpNeg}, x.N):
				safe = false
			}
		})
		if expr.Check(e) != api.OK || expr.Size(e) != size || expr.Depth(e) != levels(e) || expr.Safe(e) != safe {
			t.Fatalf("%s: %d, %d, %d, %t", expr.Show(e), expr.Check(e), expr.Size(e), expr.Depth(e), expr.Safe(e))
		}
		wantList(t, "Columns", expr.Columns(e), columns...)
		wantList(t, "Aggs", expr.Aggs(e), aggs...)
	}
}

// P10.3: the parts of All are all parts, in order.
func TestPartsOfAll(t *testing.T) {
	r := rand.New(rand.NewSource(1))
	for range 3000 {
		var l, parts []api.Expr
		for range 1 + r.Intn(9) {
			e := drawn(r, 1+r.Intn(5), true)
			l = append(l, e)
			parts = append(parts, expr.Parts(e)...)
		}
		all := expr.All(l)
		if expr.Check(all) != api.OK {
			continue
		}
		wantList(t, expr.Show(all), expr.Parts(all), parts...)
		for _, part := range parts {
			if part.Kind == api.ExprOp && part.N == api.OpAnd {
				t.Fatal("an And is a part")
			}
		}
	}
}

// unplaced is e with no places of columns.
func unplaced(e api.Expr) api.Expr {
	if e.Kind == api.ExprCol {
		e.N = 0
	}
	e.L = slices.Clone(e.L)
	for i, part := range e.L {
		e.L[i] = unplaced(part)
	}
	return e
}

// P10.3: of one text there is one expression, but for the places of columns.
func TestOneText(t *testing.T) {
	r := rand.New(rand.NewSource(1))
	byText := map[string]api.Expr{}
	met := 0
	for range 40000 {
		e := drawn(r, 1+r.Intn(3), true)
		first, there := byText[expr.Show(e)]
		if !there {
			byText[expr.Show(e)] = e
			continue
		}
		met++
		if !expr.Same(unplaced(first), unplaced(e)) {
			t.Fatalf("%s: %+v, %+v", expr.Show(e), first, e)
		}
	}
	if met < 1000 {
		t.Error("too few texts are met twice:", met)
	}
	if expr.Same(a, api.Expr{Kind: api.ExprCol, Col: "a", N: 1}) || expr.Show(a) != expr.Show(api.Expr{Kind: api.ExprCol, Col: "a", N: 1}) {
		t.Error("places are told")
	}
}
