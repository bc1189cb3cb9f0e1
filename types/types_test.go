package types_test

import (
	"math"
	"math/rand"
	"reflect"
	"slices"
	"testing"

	"commissary/api"
	"commissary/expr"
	"commissary/types"
)

// nothing is that, beside an error, an expression is all zero.
func nothing(e api.Expr) bool { return reflect.DeepEqual(e, api.Expr{}) }

// P14.1: the place of the one column that a name stands for.
func TestFind(t *testing.T) {
	l := []api.Column{{Tab: "t", Name: "a"}, {Tab: "u", Name: "a"}, {Tab: "t", Name: "b"}, {Name: "c"}, {Tab: "u", Name: "d"}, {Tab: "u", Name: "d"}, {Tab: "t", Name: "d"}, {Name: "e"}, {Tab: "t", Name: "e"}, {Tab: "A", Name: "A"}, {}}
	for _, x := range []struct {
		tab, col string
		place    int
		e        api.Errno
	}{
		{"t", "a", 0, api.OK}, {"u", "a", 1, api.OK}, {"", "a", 0, api.ErrName}, {"v", "a", 0, api.ErrName}, {"a", "t", 0, api.ErrName}, {"T", "a", 0, api.ErrName}, {"t ", "a", 0, api.ErrName},
		{"", "b", 2, api.OK}, {"t", "b", 2, api.OK}, {"u", "b", 0, api.ErrName}, {"", "B", 0, api.ErrName}, {"", "bb", 0, api.ErrName}, {"", "x", 0, api.ErrName}, {"t", "x", 0, api.ErrName}, {"t", "", 0, api.ErrName},
		{"", "c", 3, api.OK}, {"t", "c", 0, api.ErrName}, {"c", "c", 0, api.ErrName},
		{"u", "d", 0, api.ErrName}, {"t", "d", 6, api.OK}, {"", "d", 0, api.ErrName},
		{"", "e", 0, api.ErrName}, {"t", "e", 8, api.OK},
		{"", "A", 9, api.OK}, {"A", "A", 9, api.OK}, {"a", "A", 0, api.ErrName}, {"", "", 10, api.OK}, {"", "t.a", 0, api.ErrName},
	} {
		if place, e := types.Find(l, x.tab, x.col); place != x.place || e != x.e {
			t.Errorf("Find %q, %q: %d, %d", x.tab, x.col, place, e)
		}
	}
	for _, l := range [][]api.Column{nil, {}} {
		if place, e := types.Find(l, "", ""); place != 0 || e != api.ErrName {
			t.Errorf("Find among none: %d, %d", place, e)
		}
	}
}

// P14.1: what stands at a place that is not below MaxCols is not told, but makes a name one of several things.
func TestFindBeyond(t *testing.T) {
	l := wide(1 << 16)
	for _, x := range []struct {
		col   int
		place int
		e     api.Errno
	}{{0, 0, api.OK}, {api.MaxCols - 1, api.MaxCols - 1, api.OK}, {api.MaxCols, 0, api.ErrName}, {api.MaxCols + 1, 0, api.ErrName}, {1<<16 - 1, 0, api.ErrName}} {
		for _, tab := range []string{"", "t"} {
			if place, e := types.Find(l, tab, nth(x.col)); place != x.place || e != x.e {
				t.Errorf("%s: %d, %d", nth(x.col), place, e)
			}
		}
	}
	for _, place := range []int{1, api.MaxCols - 1, api.MaxCols, 1<<16 - 1} {
		twice := slices.Clone(l)
		twice[place].Name = nth(0)
		for _, tab := range []string{"", "t"} {
			if got, e := types.Find(twice, tab, nth(0)); got != 0 || e != api.ErrName {
				t.Errorf("twice, at %d: %d, %d", place, got, e)
			}
		}
		twice[place].Tab = "u"
		for _, x := range []struct {
			tab   string
			place int
			e     api.Errno
		}{{"", 0, api.ErrName}, {"t", 0, api.OK}} {
			if got, e := types.Find(twice, x.tab, nth(0)); got != x.place || e != x.e {
				t.Errorf("of another table, at %d: %d, %d", place, got, e)
			}
		}
	}
}

// P14.1: each column has its place, whatever place it had.
func TestBind(t *testing.T) {
	l := []api.Column{{Name: "x"}, {Tab: "t", Name: "a"}, {Tab: "u", Name: "b"}, {Tab: "u", Name: "a"}}
	x, b := col("x"), col("b")
	ua := of("u", "a")
	for _, c := range []struct{ e, want api.Expr }{
		{one, one}, {none, none}, {rows, rows}, {op(api.OpNot, yes), op(api.OpNot, yes)}, {x, x}, {ta, at(1, ta)}, {b, at(2, b)}, {ub, at(2, ub)}, {ua, at(3, ua)},
		{at(3, x), x}, {at(31, ta), at(1, ta)}, {at(2, ub), at(2, ub)},
		{op(api.OpAdd, ta, op(api.OpSub, ua, at(9, b))), op(api.OpAdd, at(1, ta), op(api.OpSub, at(3, ua), at(2, b)))},
		{op(api.OpAdd, op(api.OpSub, ua, ua), op(api.OpNeg, at(7, ua))), op(api.OpAdd, op(api.OpSub, at(3, ua), at(3, ua)), op(api.OpNeg, at(3, ua)))},
		{agg(api.AggSum, op(api.OpMul, ub, one)), agg(api.AggSum, op(api.OpMul, at(2, ub), one))},
		{op(api.OpDiv, agg(api.AggMin, ta), op(api.OpAdd, agg(api.AggMax, b), rows)), op(api.OpDiv, agg(api.AggMin, at(1, ta)), op(api.OpAdd, agg(api.AggMax, at(2, b)), rows))},
		// types are not asked
		{op(api.OpAnd, word, op(api.OpAdd, ta, yes)), op(api.OpAnd, word, op(api.OpAdd, at(1, ta), yes))},
	} {
		got, e := types.Bind(c.e, l)
		if e != api.OK || !reflect.DeepEqual(got, c.want) {
			t.Errorf("%s: %+v, %d", expr.Show(c.e), got, e)
		}
		again, e := types.Bind(got, l)
		if e != api.OK || !reflect.DeepEqual(again, c.want) {
			t.Errorf("%s, again: %+v, %d", expr.Show(c.e), again, e)
		}
	}
}

// P14.1: what Find refuses of one column refuses the whole.
func TestBindRefuse(t *testing.T) {
	l := append([]api.Column{{Tab: "t", Name: "a"}, {Tab: "u", Name: "a"}, {Tab: "u", Name: "b"}}, wide(api.MaxCols)...)
	for _, bad := range []api.Expr{a, at(1, a), of("v", "a"), col("z"), of("t", "b"), col("u"), col("A"), col(nth(api.MaxCols - 3)), of("t", nth(api.MaxCols-1))} {
		for _, e := range []api.Expr{bad, op(api.OpNot, bad), op(api.OpEq, bad, ub), op(api.OpEq, ub, bad), op(api.OpEq, one, op(api.OpAdd, ub, bad)), agg(api.AggMin, bad), op(api.OpAdd, rows, agg(api.AggSum, op(api.OpNeg, bad))), op(api.OpEq, bad, bad)} {
			if got, no := types.Bind(e, l); no != api.ErrName || !nothing(got) {
				t.Errorf("%s: %+v, %d", expr.Show(e), got, no)
			}
			if got, no := types.Bind(e, nil); no != api.ErrName || !nothing(got) {
				t.Errorf("%s, among none: %+v, %d", expr.Show(e), got, no)
			}
		}
	}
	if got, no := types.Bind(of("t", nth(api.MaxCols-4)), l); no != api.OK || got.N != api.MaxCols-1 {
		t.Error(got.N, no)
	}
}

// P14.1 to P14.3: what expr.Check refuses goes ahead of all else.
func TestBad(t *testing.T) {
	for i, e := range bad() {
		for _, l := range [][]api.Column{nil, typed(), {{Name: "a"}}} {
			if got, no := types.Bind(e, l); no != api.ErrExpr || !nothing(got) {
				t.Errorf("%d: Bind: %+v, %d", i, got, no)
			}
			if got, no := types.Type(e, l); no != api.ErrExpr || got != 0 {
				t.Errorf("%d: Type: %d, %d", i, got, no)
			}
		}
		for _, places := range [][]int{nil, {0, 1, 2}, {-1, 99}} {
			if got, no := types.Move(e, places); no != api.ErrExpr || !nothing(got) {
				t.Errorf("%d: Move: %+v, %d", i, got, no)
			}
		}
		if got := types.Uses(e); len(got) != 0 {
			t.Errorf("%d: Uses: %v", i, got)
		}
	}
	wrong := op(api.OpAnd, op(api.OpAdd, word, place(9)), lit(api.Value{Kind: 9})) // it has neither types nor places, too
	if got, no := types.Type(wrong, nil); no != api.ErrExpr || got != 0 {
		t.Error(got, no)
	}
}

// P14.3: each column has the place that stands at its own.
func TestMove(t *testing.T) {
	last := api.MaxCols - 1
	for _, x := range []struct {
		e      api.Expr
		places []int
		want   api.Expr
	}{
		{ta, []int{5}, at(5, ta)}, {at(1, ta), []int{7, 0}, ta}, {at(2, ub), []int{9, 9, 2}, at(2, ub)}, {place(0), []int{last}, place(last)}, {place(0), []int{0}, place(0)},
		{op(api.OpAdd, place(0), op(api.OpSub, place(1), place(0))), []int{1, 0}, op(api.OpAdd, place(1), op(api.OpSub, place(0), place(1)))},
		{op(api.OpAdd, place(2), place(1)), []int{-1, 4, 4}, op(api.OpAdd, place(4), place(4))},
		{agg(api.AggSum, op(api.OpNeg, place(3))), []int{-1, 99, math.MinInt, 30, math.MaxInt}, agg(api.AggSum, op(api.OpNeg, place(30)))},
		{op(api.OpDiv, agg(api.AggMin, place(1)), rows), []int{0, 2}, op(api.OpDiv, agg(api.AggMin, place(2)), rows)},
		{place(last), slices.Repeat([]int{8}, 1<<16), place(8)}, {place(last), slices.Repeat([]int{8}, api.MaxCols), place(8)},
		// without columns nothing is asked of places
		{one, nil, one}, {one, []int{-1}, one}, {rows, nil, rows}, {op(api.OpAdd, one, agg(api.AggSum, word)), []int{99}, op(api.OpAdd, one, agg(api.AggSum, word))},
	} {
		if got, no := types.Move(x.e, x.places); no != api.OK || !reflect.DeepEqual(got, x.want) {
			t.Errorf("%s: %+v, %d", expr.Show(x.e), got, no)
		}
	}
}

// P14.3: a place that is not there, or may not be, refuses the whole.
func TestMoveRefuse(t *testing.T) {
	for _, x := range []struct {
		place  int
		places []int
	}{
		{0, nil}, {0, []int{}}, {1, []int{0}}, {api.MaxCols - 1, slices.Repeat([]int{0}, api.MaxCols-1)},
		{0, []int{-1}}, {0, []int{api.MaxCols}}, {1, []int{0, -1}}, {1, []int{0, 99}}, {0, []int{math.MinInt, 0}}, {1, []int{1, math.MaxInt}}, {2, []int{0, 0, 256}},
	} {
		bad := place(x.place)
		for _, e := range []api.Expr{bad, op(api.OpNot, bad), op(api.OpEq, bad, one), op(api.OpEq, one, bad), op(api.OpAnd, op(api.OpNeg, bad), none), agg(api.AggMax, bad), op(api.OpEq, agg(api.AggSum, op(api.OpAdd, one, bad)), rows)} {
			if got, no := types.Move(e, x.places); no != api.ErrName || !nothing(got) {
				t.Errorf("%+v by %v: %+v, %d", e, x.places, got, no)
			}
		}
	}
	both := op(api.OpAdd, place(0), place(1))
	for _, places := range [][]int{{0}, {0, -1}, {-1, 0}, {api.MaxCols, 0}, {0, api.MaxCols}} {
		if got, no := types.Move(both, places); no != api.ErrName || !nothing(got) {
			t.Errorf("by %v: %+v, %d", places, got, no)
		}
	}
}

// P14.3: places rise, each once.
func TestUses(t *testing.T) {
	var all []int
	for n := range api.MaxCols {
		all = append(all, n)
	}
	every := op(api.OpAnd, either(0, api.MaxCols/2), either(api.MaxCols/2, api.MaxCols))
	for _, x := range []struct {
		e    api.Expr
		want []int
	}{
		{one, nil}, {rows, nil}, {op(api.OpNot, yes), nil}, {place(0), []int{0}}, {place(31), []int{31}}, {a, []int{0}},
		{op(api.OpAdd, place(2), place(1)), []int{1, 2}}, {op(api.OpAdd, place(1), place(1)), []int{1}},
		{op(api.OpAdd, place(9), op(api.OpAdd, place(10), op(api.OpAdd, place(9), op(api.OpSub, place(2), place(9))))), []int{2, 9, 10}},
		{op(api.OpEq, op(api.OpNull, place(7)), agg(api.AggSum, op(api.OpMul, place(0), place(7)))), []int{0, 7}},
		{op(api.OpAdd, agg(api.AggMin, place(3)), op(api.OpAdd, rows, agg(api.AggMin, place(3)))), []int{3}},
		{op(api.OpEq, at(4, ta), at(4, ub)), []int{4}}, {op(api.OpEq, at(4, ta), at(5, ta)), []int{4, 5}},
		{every, all}, {sized(api.MaxNodes), []int{0}}, {deep(api.MaxDepth), []int{0}},
	} {
		if got := types.Uses(x.e); !slices.Equal(got, x.want) {
			t.Errorf("%s: %v", expr.Show(x.e), got)
		}
	}
}

// either is an expression of the places from least to below most, the greatest one first.
func either(least, most int) api.Expr {
	e := place(most - 1)
	for n := most - 2; n >= least; n-- {
		e = op(api.OpOr, e, place(n))
	}
	return e
}

// P14.1 to P14.3: the greatest expressions are bound, moved, and have types.
func TestLimits(t *testing.T) {
	l := []api.Column{{Name: "x"}, {Name: "a", Type: api.KindBool}}
	for _, e := range []api.Expr{sized(api.MaxNodes), deep(api.MaxDepth)} {
		bound, no := types.Bind(e, l)
		if no != api.OK || !slices.Equal(types.Uses(bound), []int{1}) || expr.Size(bound) != expr.Size(e) || expr.Show(bound) != expr.Show(e) {
			t.Error(types.Uses(bound), no)
		}
		if kind, no := types.Type(bound, l); no != api.OK || kind != api.KindBool {
			t.Error(kind, no)
		}
		moved, no := types.Move(bound, []int{0, 31})
		if no != api.OK || !slices.Equal(types.Uses(moved), []int{31}) || expr.Show(moved) != expr.Show(e) {
			t.Error(types.Uses(moved), no)
		}
	}
}

// P14.1, P14.3, P14.4: drawn expressions, held against what is said of their columns one by one.
func TestDrawn(t *testing.T) {
	r := rand.New(rand.NewSource(1))
	names := []string{"a", "b", "c"}
	name := func() string { return names[r.Intn(len(names))] }
	bound, moved := 0, 0
	for range 5000 {
		l := make([]api.Column, 1+r.Intn(8))
		for i := range l {
			l[i] = api.Column{Tab: name(), Name: name(), Type: r.Intn(4)}
		}
		e := draw(r, 1+r.Intn(5), true, func() api.Expr {
			x := l[r.Intn(len(l))]
			return at(r.Intn(9), of([]string{"", x.Tab, x.Tab}[r.Intn(3)], x.Name))
		})
		if checkBind(t, e, l) {
			bound++
		}
		places := make([]int, r.Intn(12))
		for i := range places {
			places[i] = r.Intn(api.MaxCols+4) - 1
		}
		if checkMove(t, e, places) {
			moved++
		}
		if got := types.Uses(e); !slices.Equal(got, usedBy(e)) {
			t.Fatalf("%+v uses %v", e, got)
		}
	}
	if bound < 500 || moved < 500 {
		t.Error("too few:", bound, moved)
	}
}

// usedBy is found by asking of each place whether it is there.
func usedBy(e api.Expr) []int {
	var l []int
	for n := range api.MaxCols {
		if slices.ContainsFunc(expr.Columns(e), func(c api.Expr) bool { return c.N == n }) {
			l = append(l, n)
		}
	}
	return l
}

// checkBind tells whether e is bound.
func checkBind(t *testing.T, e api.Expr, l []api.Column) bool {
	t.Helper()
	got, no := types.Bind(e, l)
	meant := func(c api.Expr) []int {
		var places []int
		for i, x := range l {
			if x.Name == c.Col && (c.Tab == "" || x.Tab == c.Tab) {
				places = append(places, i)
			}
		}
		return places
	}
	columns := expr.Columns(e)
	if slices.ContainsFunc(columns, func(c api.Expr) bool { return len(meant(c)) != 1 }) {
		if no != api.ErrName || !nothing(got) {
			t.Fatalf("%+v among %v: %+v, %d", e, l, got, no)
		}
		return false
	}
	for i, c := range expr.Columns(got) {
		if want := at(meant(c)[0], columns[i]); !expr.Same(c, want) {
			t.Fatalf("%+v among %v: column %d is %+v", e, l, i, c)
		}
	}
	again, noAgain := types.Bind(got, l)
	_, untyped := types.Type(got, l)
	if no != api.OK || expr.Show(got) != expr.Show(e) || noAgain != api.OK || !expr.Same(again, got) || untyped != api.OK && untyped != api.ErrType {
		t.Fatalf("%+v among %v: %+v, %d, again %+v, %d, type %d", e, l, got, no, again, noAgain, untyped)
	}
	return true
}

// checkMove tells whether e is moved.
func checkMove(t *testing.T, e api.Expr, places []int) bool {
	t.Helper()
	got, no := types.Move(e, places)
	columns := expr.Columns(e)
	if slices.ContainsFunc(columns, func(c api.Expr) bool {
		return c.N >= len(places) || places[c.N] < 0 || places[c.N] >= api.MaxCols
	}) {
		if no != api.ErrName || !nothing(got) {
			t.Fatalf("%+v by %v: %+v, %d", e, places, got, no)
		}
		return false
	}
	for i, c := range expr.Columns(got) {
		if want := at(places[columns[i].N], columns[i]); !expr.Same(c, want) {
			t.Fatalf("%+v by %v: column %d is %+v", e, places, i, c)
		}
	}
	if no != api.OK || expr.Show(got) != expr.Show(e) {
		t.Fatalf("%+v by %v: %+v, %d", e, places, got, no)
	}
	return true
}

// spoil changes each expression that a list of e's holds, and the room behind its end.
func spoil(e api.Expr) {
	for _, part := range e.L {
		spoil(part)
	}
	spare := e.L[:cap(e.L)]
	for i := range spare {
		spare[i] = api.Expr{Kind: 77, N: i}
	}
}

// R3: what is handed in stays as it is, and what is answered is apart from it.
func TestApart(t *testing.T) {
	x := op(api.OpNeg, at(2, ta))
	args := func() (api.Expr, []api.Column, []int) {
		parts := append(make([]api.Expr, 0, 4), agg(api.AggSum, op(api.OpNeg, at(2, ta))), op(api.OpNot, ub))
		l := append(make([]api.Column, 0, 9), api.Column{Tab: "t", Name: "a", Type: api.KindInt}, api.Column{Tab: "u", Name: "b"}, api.Column{})
		return op(api.OpOr, parts...), l, append(make([]int, 0, 9), 3, 2, 1)
	}
	e, l, places := args()
	bound, _ := types.Bind(e, l)
	moved, _ := types.Move(e, places)
	types.Type(e, l)
	types.Find(l, "t", "a")
	uses := types.Uses(e)
	spoil(bound)
	spoil(moved)
	clear(uses[:cap(uses)])
	again, k, p := args()
	if !reflect.DeepEqual(e, again) || !reflect.DeepEqual(l[:9], k[:9]) || !reflect.DeepEqual(places[:9], p[:9]) || !reflect.DeepEqual(e.L[:4], again.L[:4]) {
		t.Error("what was handed in is changed")
	}
	bound, _ = types.Bind(e, l)
	moved, _ = types.Move(e, places)
	spoil(e)
	clear(l)
	clear(places)
	if expr.Show(bound) != "(SUM((- t.a)) OR (NOT u.b))" || expr.Show(moved) != "(SUM((- t.a)) OR (NOT u.b))" || !slices.Equal(types.Uses(bound), []int{0, 1}) || !slices.Equal(types.Uses(moved), []int{1, 3}) {
		t.Error("answers are changed behind the call")
	}
	// one expression that stands there twice does not make two lists of an answer one
	twice := op(api.OpEq, x, x)
	bound, _ = types.Bind(twice, []api.Column{{Tab: "t", Name: "a"}})
	moved, _ = types.Move(twice, []int{1, 1, 1})
	for _, got := range []api.Expr{bound, moved} {
		second := got.L[1].L[0]
		spoil(got.L[0])
		if !reflect.DeepEqual(got.L[1].L[0], second) {
			t.Errorf("a part's sibling: %+v", got.L[1])
		}
	}
}
