package calc_test

import (
	"math/rand"
	"reflect"
	"slices"
	"testing"

	"commissary/api"
	"commissary/calc"
	"commissary/expr"
	"commissary/value"
)

// checkComes is that e comes to v of r, or that it is refused.
func checkComes(t *testing.T, e api.Expr, r []api.Value, v api.Value, no api.Errno) {
	t.Helper()
	got, errno := calc.Eval(e, r)
	if got != v || errno != no {
		t.Errorf("%s of %v: %v, %d, not %v, %d", expr.Show(e), r, got, errno, v, no)
	}
}

// checkAnswer is that e comes to what is answered, and that Row and Holds say the same.
func checkAnswer(t *testing.T, e api.Expr, r []api.Value, want answer) {
	t.Helper()
	no := api.OK
	if want.errs {
		no = api.ErrArith
	}
	checkComes(t, e, r, want.v, no)
	l, errno := calc.Row([]api.Expr{e}, r)
	if errno != no || want.errs && len(l) != 0 || !want.errs && !slices.Equal(l, row(want.v)) {
		t.Errorf("Row of %s: %v, %d", expr.Show(e), l, errno)
	}
}

// P16.1: literals come to their own values, columns to those at their places, or null.
func TestLeaves(t *testing.T) {
	for _, v := range sound() {
		if v.Kind != api.KindInt || v.N >= 0 {
			checkComes(t, lit(v), nil, v, api.OK)
			checkComes(t, lit(v), row(num(9)), v, api.OK)
		}
	}
	long := make([]api.Value, 2*api.MaxCols)
	for i := range long {
		long[i] = num(i)
	}
	for n := range api.MaxCols {
		for _, cut := range []int{0, 1, n, n + 1, api.MaxCols - 1, api.MaxCols, 2 * api.MaxCols} {
			want := null
			if n < cut {
				want = num(n)
			}
			checkComes(t, place(n), long[:cut], want, api.OK)
		}
	}
	for _, v := range append(strange(), sound()...) {
		checkComes(t, place(1), row(yes, v, no), v, api.OK)
	}
}

// P16.1: the truths of And, Or and Not, of bools, null and what is no bool; which parts are asked.
func TestLogic(t *testing.T) {
	unknown := append(strange(), null, num(0), num(1), text(""), text("TRUE"))
	for _, u := range unknown {
		r := row(u, yes, no)
		x, y, n := place(0), place(1), place(2)
		for _, c := range []struct {
			e    api.Expr
			want api.Value
		}{
			{op(api.OpAnd, x, y), null}, {op(api.OpAnd, x, n), no}, {op(api.OpAnd, y, x), null}, {op(api.OpAnd, n, x), no}, {op(api.OpAnd, x, x), null},
			{op(api.OpAnd, y, y), yes}, {op(api.OpAnd, y, n), no}, {op(api.OpAnd, n, y), no}, {op(api.OpAnd, n, n), no},
			{op(api.OpOr, x, y), yes}, {op(api.OpOr, x, n), null}, {op(api.OpOr, y, x), yes}, {op(api.OpOr, n, x), null}, {op(api.OpOr, x, x), null},
			{op(api.OpOr, y, y), yes}, {op(api.OpOr, y, n), yes}, {op(api.OpOr, n, y), yes}, {op(api.OpOr, n, n), no},
			{op(api.OpNot, x), null}, {op(api.OpNot, y), no}, {op(api.OpNot, n), yes},
			{op(api.OpAnd, n, wrong), no}, {op(api.OpOr, y, wrong), yes}, {op(api.OpAnd, op(api.OpAnd, x, n), wrong), no}, {op(api.OpOr, op(api.OpOr, x, y), wrong), yes},
		} {
			checkComes(t, c.e, r, c.want, api.OK)
		}
		for _, e := range []api.Expr{
			op(api.OpAnd, x, wrong), op(api.OpAnd, y, wrong), op(api.OpOr, x, wrong), op(api.OpOr, n, wrong), op(api.OpAnd, wrong, n), op(api.OpOr, wrong, y), op(api.OpNot, wrong),
			op(api.OpAnd, op(api.OpAnd, y, wrong), n), op(api.OpOr, op(api.OpNot, wrong), y), op(api.OpAnd, op(api.OpNull, wrong), n),
		} {
			checkComes(t, e, r, api.Value{}, api.ErrArith)
		}
	}
}

// P16.1: comparisons of each two values.
func TestComparisons(t *testing.T) {
	all := append(sound(), strange()...)
	for _, a := range all {
		for _, b := range all {
			r := row(a, b)
			for n, want := range map[int]int{
				api.OpEq: value.Equal(a, b), api.OpNe: value.Not(value.Equal(a, b)), api.OpLt: value.Less(a, b), api.OpGt: value.Less(b, a),
				api.OpLe: value.Not(value.Less(b, a)), api.OpGe: value.Not(value.Less(a, b)),
			} {
				checkComes(t, op(n, place(0), place(1)), r, value.Of(want), api.OK)
			}
		}
	}
	for _, c := range []struct {
		n    int
		a, b api.Value
		want api.Value
	}{
		{api.OpEq, num(1), num(1), yes}, {api.OpEq, num(1), text("1"), no}, {api.OpEq, null, null, null}, {api.OpEq, num(1), null, null}, {api.OpEq, num(1), yes, no},
		{api.OpNe, num(1), num(1), no}, {api.OpNe, num(1), text("1"), yes}, {api.OpNe, null, num(1), null},
		{api.OpLt, num(1), num(2), yes}, {api.OpLt, num(2), num(1), no}, {api.OpLt, num(1), num(1), no}, {api.OpLt, num(1), text("a"), no}, {api.OpLt, text("a"), num(1), no},
		{api.OpLe, num(1), num(1), yes}, {api.OpLe, num(2), num(1), no}, {api.OpLe, num(1), num(2), yes}, {api.OpLe, num(1), text("a"), yes}, {api.OpLe, text("a"), num(1), yes}, {api.OpLe, null, num(1), null},
		{api.OpGt, num(2), num(1), yes}, {api.OpGt, num(1), num(1), no}, {api.OpGt, num(1), num(2), no}, {api.OpGt, text("a"), num(1), no}, {api.OpGt, num(1), null, null},
		{api.OpGe, num(1), num(1), yes}, {api.OpGe, num(1), num(2), no}, {api.OpGe, num(2), num(1), yes}, {api.OpGe, no, text("a"), yes}, {api.OpGe, text("a"), no, yes}, {api.OpGe, null, null, null},
		{api.OpLt, text("a"), text("b"), yes}, {api.OpLt, text("a"), text("aa"), yes}, {api.OpGe, text("B"), text("a"), no}, {api.OpLt, no, yes, yes}, {api.OpEq, text("a"), text("A"), no},
	} {
		checkComes(t, op(c.n, place(0), place(1)), row(c.a, c.b), c.want, api.OK)
	}
	for n := api.OpEq; n <= api.OpGe; n++ {
		checkComes(t, op(n, wrong, one), nil, api.Value{}, api.ErrArith)
		checkComes(t, op(n, lit(null), wrong), nil, api.Value{}, api.ErrArith)
	}
}

// P16.1: what is null, and what is not, by its kind alone.
func TestNulls(t *testing.T) {
	for _, v := range append(sound(), strange()...) {
		is := v.Kind == api.KindNull
		checkComes(t, op(api.OpNull, place(0)), row(v), value.Bool(is), api.OK)
		checkComes(t, op(api.OpThere, place(0)), row(v), value.Bool(!is), api.OK)
	}
	for _, n := range []int{api.OpNull, api.OpThere} {
		checkComes(t, op(n, wrong), nil, api.Value{}, api.ErrArith)
		checkComes(t, op(n, place(3)), row(num(1)), value.Bool(n == api.OpNull), api.OK)
	}
}

// P16.1: sums and the like of ints, at their edges, held against a plain count.
func TestSums(t *testing.T) {
	for _, a := range numbers() {
		for _, b := range numbers() {
			for n := api.OpAdd; n <= api.OpMod; n++ {
				checkAnswer(t, op(n, place(0), place(1)), row(num(a), num(b)), plainSum(n, num(a), num(b)))
			}
		}
		checkComes(t, op(api.OpNeg, place(0)), row(num(a)), num(-a), api.OK)
	}
	const most = api.MaxInt
	for _, c := range []struct {
		n, a, b, want int
		no            api.Errno
	}{
		{api.OpAdd, most, 0, most, api.OK}, {api.OpAdd, most - 1, 1, most, api.OK}, {api.OpAdd, most, 1, 0, api.ErrArith}, {api.OpAdd, -most, -1, 0, api.ErrArith}, {api.OpAdd, -most, most, 0, api.OK},
		{api.OpSub, -most, 0, -most, api.OK}, {api.OpSub, -most, 1, 0, api.ErrArith}, {api.OpSub, 1 - most, 1, -most, api.OK}, {api.OpSub, most, -1, 0, api.ErrArith}, {api.OpSub, 0, most, -most, api.OK},
		{api.OpMul, most, 1, most, api.OK}, {api.OpMul, most, -1, -most, api.OK}, {api.OpMul, most, 2, 0, api.ErrArith}, {api.OpMul, most, most, 0, api.ErrArith}, {api.OpMul, most, 0, 0, api.OK}, {api.OpMul, 0, -most, 0, api.OK},
		{api.OpMul, 6361, 69431 * 20394401, most, api.OK}, {api.OpMul, 6361, 69431*20394401 + 1, 0, api.ErrArith}, {api.OpMul, -6361, 69431 * 20394401, -most, api.OK}, {api.OpMul, 1 << 26, 1 << 27, 0, api.ErrArith},
		{api.OpMul, 1 << 32, 1 << 32, 0, api.ErrArith}, {api.OpMul, 1 << 52, 1 << 12, 0, api.ErrArith}, {api.OpMul, -(1 << 32), 1<<32 + 1, 0, api.ErrArith},
		{api.OpDiv, 7, 2, 3, api.OK}, {api.OpDiv, -7, 2, -3, api.OK}, {api.OpDiv, 7, -2, -3, api.OK}, {api.OpDiv, -7, -2, 3, api.OK}, {api.OpDiv, most, -1, -most, api.OK}, {api.OpDiv, 1, 2, 0, api.OK}, {api.OpDiv, 0, 5, 0, api.OK}, {api.OpDiv, 1, 0, 0, api.ErrArith}, {api.OpDiv, 0, 0, 0, api.ErrArith},
		{api.OpMod, 7, 2, 1, api.OK}, {api.OpMod, -7, 2, -1, api.OK}, {api.OpMod, 7, -2, 1, api.OK}, {api.OpMod, -7, -2, -1, api.OK}, {api.OpMod, 6, 3, 0, api.OK}, {api.OpMod, -most, -1, 0, api.OK}, {api.OpMod, 1, 0, 0, api.ErrArith}, {api.OpMod, 0, 0, 0, api.ErrArith},
	} {
		v := num(c.want)
		if c.no != api.OK {
			v = api.Value{}
		}
		checkComes(t, op(c.n, place(0), place(1)), row(num(c.a), num(c.b)), v, c.no)
	}
}

// P16.1: parts of sums that are null, that are no ints, that may not be: these err even beside a null.
func TestSumsOfOthers(t *testing.T) {
	odd := append(strange(), yes, no, text(""), text("1"))
	for n := api.OpAdd; n <= api.OpMod; n++ {
		e := op(n, place(0), place(1))
		for _, v := range odd {
			for _, other := range append(odd, null, num(0), num(1)) {
				checkComes(t, e, row(v, other), api.Value{}, api.ErrArith)
				checkComes(t, e, row(other, v), api.Value{}, api.ErrArith)
			}
		}
		for _, b := range []api.Value{null, num(0), num(5), num(-api.MaxInt)} {
			checkComes(t, e, row(null, b), null, api.OK)
			checkComes(t, e, row(b, null), null, api.OK)
		}
		checkComes(t, op(n, lit(null), wrong), nil, api.Value{}, api.ErrArith)
		checkComes(t, op(n, wrong, lit(null)), nil, api.Value{}, api.ErrArith)
		checkComes(t, op(n, place(7), one), nil, null, api.OK)
	}
	neg := op(api.OpNeg, place(0))
	for _, v := range odd {
		checkComes(t, neg, row(v), api.Value{}, api.ErrArith)
	}
	checkComes(t, neg, row(null), null, api.OK)
	checkComes(t, neg, row(num(0)), num(0), api.OK)
	checkComes(t, op(api.OpNeg, wrong), nil, api.Value{}, api.ErrArith)
}

// P16.1: the chapter's examples, and expressions of many parts.
func TestEval(t *testing.T) {
	seven, two := op(api.OpNeg, lit(num(7))), lit(num(2))
	checkComes(t, op(api.OpDiv, seven, two), nil, num(-3), api.OK)
	checkComes(t, op(api.OpMod, seven, two), nil, num(-1), api.OK)
	checkComes(t, op(api.OpAnd, lit(no), op(api.OpEq, wrong, one)), nil, no, api.OK)
	checkComes(t, op(api.OpDiv, lit(null), lit(num(0))), nil, null, api.OK)
	checkComes(t, sized(api.MaxNodes), nil, yes, api.OK)
	checkComes(t, deep(api.MaxDepth), row(no), yes, api.OK)
	checkComes(t, deep(api.MaxDepth), row(null), null, api.OK)
}

// P16.1: what may not be is refused ahead of all, then what has an aggregate, wherever it stands.
func TestRefused(t *testing.T) {
	check := func(e api.Expr, want api.Errno) {
		t.Helper()
		checkComes(t, e, row(num(1)), api.Value{}, want)
		if got, no := calc.Holds(e, row(num(1))); got || no != want {
			t.Errorf("Holds of %s: %t, %d", expr.Show(e), got, no)
		}
		if got, no := calc.Row([]api.Expr{one, e, wrong}, nil); len(got) != 0 || no != want {
			t.Errorf("Row of %s: %v, %d", expr.Show(e), got, no)
		}
		if !calc.Errs(e) {
			t.Errorf("Errs of %s", expr.Show(e))
		}
	}
	for _, e := range bad() {
		check(e, api.ErrExpr)
	}
	for _, e := range aggregated() {
		check(e, api.ErrArg)
	}
}

// P16.1: an expression holds if its parts are all true, the safe ones being asked first.
func TestHolds(t *testing.T) {
	safeYes, safeNo, safeNull := place(0), place(1), place(2)
	unsafe := func(e api.Expr) api.Expr { return op(api.OpOr, op(api.OpNull, op(api.OpNeg, lit(null))), e) } // true, and not safe
	sum := func(n int) api.Expr { return op(api.OpEq, op(api.OpAdd, one, one), lit(num(n))) }
	unknown := op(api.OpEq, op(api.OpAdd, one, lit(null)), one)
	and := func(l ...api.Expr) api.Expr {
		e := l[0]
		for _, x := range l[1:] {
			e = op(api.OpAnd, e, x)
		}
		return e
	}
	for _, c := range []struct {
		why  string
		e    api.Expr
		want bool
		no   api.Errno
	}{
		{"a true part", safeYes, true, api.OK}, {"a false part", safeNo, false, api.OK}, {"a null part", safeNull, false, api.OK},
		{"an int", one, false, api.OK}, {"a text", lit(text("TRUE")), false, api.OK}, {"null", lit(null), false, api.OK}, {"a place that is none", place(9), false, api.OK},
		{"an unsafe true part", sum(2), true, api.OK}, {"an unsafe false part", sum(3), false, api.OK}, {"an unsafe null part", unknown, false, api.OK},
		{"one that errs", wrong, false, api.ErrArith}, {"one in which it errs", op(api.OpNot, wrong), false, api.ErrArith},
		{"true, true", and(safeYes, safeYes), true, api.OK}, {"true, false", and(safeYes, safeNo), false, api.OK}, {"false, true", and(safeNo, safeYes), false, api.OK}, {"true, null", and(safeYes, safeNull), false, api.OK},
		{"true, errs", and(safeYes, wrong), false, api.ErrArith}, {"errs, true", and(wrong, safeYes), false, api.ErrArith},
		{"false, errs", and(safeNo, wrong), false, api.OK}, {"errs, false", and(wrong, safeNo), false, api.OK}, {"null, errs", and(safeNull, wrong), false, api.OK}, {"errs, null", and(wrong, safeNull), false, api.OK},
		{"an int, errs", and(one, wrong), false, api.OK}, {"errs, an int", and(wrong, one), false, api.OK},
		{"unsafe false, errs", and(sum(3), wrong), false, api.OK}, {"errs, unsafe false", and(wrong, sum(3)), false, api.ErrArith},
		{"unsafe null, errs", and(unknown, wrong), false, api.OK}, {"errs, unsafe null", and(wrong, unknown), false, api.ErrArith}, {"unsafe true, errs", and(sum(2), wrong), false, api.ErrArith},
		{"unsafe, safe, all true", and(sum(2), safeYes, sum(2), safeYes), true, api.OK}, {"the last one false", and(sum(2), safeYes, sum(2), safeNo), false, api.OK}, {"the last one unsafe, false", and(sum(2), safeYes, sum(3)), false, api.OK},
		{"errs twice, then false", and(wrong, wrong, safeYes, safeNo), false, api.OK}, {"errs twice, then unsafe false", and(safeYes, wrong, sum(3)), false, api.ErrArith}, {"unsafe false between", and(safeYes, sum(3), wrong), false, api.OK},
		{"on the right", op(api.OpAnd, wrong, op(api.OpAnd, wrong, op(api.OpAnd, safeYes, safeNo))), false, api.OK}, {"on the right, unsafe", op(api.OpAnd, sum(2), op(api.OpAnd, sum(3), wrong)), false, api.OK},
		{"on both sides", op(api.OpAnd, op(api.OpAnd, wrong, safeYes), op(api.OpAnd, safeNull, wrong)), false, api.OK},
		{"an or is one part", op(api.OpOr, wrong, safeYes), false, api.ErrArith}, {"an or, and false", and(op(api.OpOr, wrong, safeYes), safeNo), false, api.OK}, {"an or that decides", op(api.OpOr, safeYes, wrong), true, api.OK},
		{"a not is one part", op(api.OpNot, and(wrong, safeNo)), false, api.ErrArith}, {"an and within a not", op(api.OpNot, and(safeNo, wrong)), true, api.OK},
		{"an and within an or", op(api.OpOr, and(wrong, safeNo), safeYes), false, api.ErrArith}, {"a true that is not safe", unsafe(wrong), true, api.OK},
		{"many parts", sized(api.MaxNodes), true, api.OK},
	} {
		got, no := calc.Holds(c.e, row(yes, no, null))
		if got != c.want || no != c.no {
			t.Errorf("%s: %t, %d", c.why, got, no)
		}
	}
	for _, v := range strange() {
		if got, no := calc.Holds(place(0), row(v)); got || no != api.OK {
			t.Errorf("%v holds: %t, %d", v, got, no)
		}
	}
}

// P16.1: a row of values, in order; or what the first one refuses that does.
func TestRow(t *testing.T) {
	r := row(num(4), text("a"), null)
	refusedArg, refusedExpr := rows, api.Expr{}
	for _, c := range []struct {
		l    []api.Expr
		want []api.Value
		no   api.Errno
	}{
		{nil, nil, api.OK}, {[]api.Expr{}, nil, api.OK},
		{[]api.Expr{place(1), place(0), place(2), place(3), one, place(1)}, row(text("a"), num(4), null, null, num(1), text("a")), api.OK},
		{[]api.Expr{op(api.OpNeg, place(0)), op(api.OpNull, place(1))}, row(num(-4), no), api.OK},
		{[]api.Expr{wrong}, nil, api.ErrArith}, {[]api.Expr{one, wrong}, nil, api.ErrArith}, {[]api.Expr{wrong, one}, nil, api.ErrArith}, {[]api.Expr{one, wrong, one}, nil, api.ErrArith},
		{[]api.Expr{one, wrong, refusedArg, refusedExpr}, nil, api.ErrArith}, {[]api.Expr{one, refusedArg, wrong, refusedExpr}, nil, api.ErrArg}, {[]api.Expr{one, refusedExpr, refusedArg, wrong}, nil, api.ErrExpr},
		{slices.Repeat([]api.Expr{place(0)}, 1000), slices.Repeat(row(num(4)), 1000), api.OK},
	} {
		got, no := calc.Row(c.l, r)
		if !slices.Equal(got, c.want) || no != c.no {
			t.Errorf("%v: %v, %d", c.l, got, no)
		}
	}
}

// P16.2: what may err.
func TestErrs(t *testing.T) {
	for _, e := range []api.Expr{one, place(5), lit(null), sized(api.MaxNodes), deep(api.MaxDepth), op(api.OpOr, op(api.OpEq, one, lit(yes)), op(api.OpLe, one, place(0))), op(api.OpNull, op(api.OpThere, one)), op(api.OpNe, one, op(api.OpGe, one, one))} {
		if calc.Errs(e) {
			t.Errorf("Errs of %s", expr.Show(e))
		}
	}
	for n := api.OpAdd; n <= api.OpNeg; n++ {
		e := op(n, one, one)
		if n == api.OpNeg {
			e = op(n, one)
		}
		if !calc.Errs(e) || !calc.Errs(op(api.OpOr, lit(yes), e)) || !calc.Errs(op(api.OpNull, e)) {
			t.Errorf("Errs of %s", expr.Show(e))
		}
	}
}

// drawRow is a row of values that may be.
func drawRow(r *rand.Rand) []api.Value {
	var l []api.Value
	for range r.Intn(6) {
		l = append(l, sound()[r.Intn(len(sound()))])
	}
	return l
}

// P16.1, P16.3: drawn expressions of drawn rows, held against a plain count; what is safe never errs, and what comes to a value comes to one that may be.
func TestDrawn(t *testing.T) {
	r := rand.New(rand.NewSource(1))
	counts := map[string]int{}
	for range 100000 {
		e, l := draw(r, 1+r.Intn(5)), drawRow(r)
		want := plain(e, l)
		checkAnswer(t, e, l, want)
		if got, _ := calc.Eval(e, l); value.Check(got) != api.OK {
			t.Fatalf("%s of %v: %v", expr.Show(e), l, got)
		}
		if want.errs && !calc.Errs(e) {
			t.Fatalf("%s is safe, and errs", expr.Show(e))
		}
		checkHolds(t, e, l)
		switch {
		case want.errs:
			counts["errs"]++
		case calc.Errs(e):
			counts["unsafe"]++
		default:
			counts["safe"]++
		}
	}
	if counts["errs"] < 5000 || counts["unsafe"] < 5000 || counts["safe"] < 5000 {
		t.Error("of one sort too few are drawn:", counts)
	}
}

// checkHolds holds Holds against its parts, asked in turn.
func checkHolds(t *testing.T, e api.Expr, l []api.Value) {
	t.Helper()
	parts := expr.Parts(e)
	slices.SortStableFunc(parts, func(a, b api.Expr) int {
		late := map[bool]int{true: 0, false: 1}
		return late[expr.Safe(a)] - late[expr.Safe(b)]
	})
	want, no := true, api.OK
	for _, part := range parts {
		if x := plain(part, l); x.errs {
			want, no = false, api.ErrArith
		} else {
			want = x.v == yes
		}
		if !want {
			break
		}
	}
	if got, errno := calc.Holds(e, l); got != want || errno != no {
		t.Fatalf("Holds of %s, %v: %t, %d", expr.Show(e), l, got, errno)
	}
}

// R3: what is handed in stays as it is, and the room behind it.
func TestUnchanged(t *testing.T) {
	full := append(sound(), num(5))
	r := full[: len(full)-1 : len(full)]
	l := []api.Expr{op(api.OpAdd, place(3), one), place(1), op(api.OpAnd, place(2), op(api.OpAnd, place(2), place(2)))}
	again := []api.Expr{op(api.OpAdd, place(3), one), place(1), op(api.OpAnd, place(2), op(api.OpAnd, place(2), place(2)))}
	for _, e := range l {
		calc.Eval(e, r)
		calc.Holds(e, r)
		calc.Errs(e)
	}
	got, _ := calc.Row(l, r)
	clear(got[:cap(got)])
	for n := range api.AggMax + 2 {
		calc.Fold(n, r)
	}
	if !slices.Equal(full, append(sound(), num(5))) || !reflect.DeepEqual(l, again) {
		t.Error("changed")
	}
	if got, _ := calc.Row(l, r); !slices.Equal(got, row(num(1), no, yes)) {
		t.Errorf("Row once its answer is changed: %v", got)
	}
}
