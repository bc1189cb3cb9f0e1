package types_test

import (
	"math"
	"math/rand"
	"slices"
	"testing"

	"commissary/api"
	"commissary/expr"
	"commissary/types"
	"commissary/value"
)

// untyped is what an operator's type stands for where there is none.
const untyped = -1

// signature is the type of an operator of parts of types.
type signature struct {
	n     int
	parts []int
	kind  int
}

// signatures is the types of each operator and aggregate, of parts of each type.
func signatures() []signature {
	// by the left part's type, then the right part's: null, bool, int, text
	const no, null, yes, num, word = untyped, api.KindNull, api.KindBool, api.KindInt, api.KindText
	logic := [4][4]int{{yes, yes, no, no}, {yes, yes, no, no}, {no, no, no, no}, {no, no, no, no}}
	order := [4][4]int{{yes, yes, yes, yes}, {yes, yes, no, no}, {yes, no, yes, no}, {yes, no, no, yes}}
	sums := [4][4]int{{num, no, num, no}, {no, no, no, no}, {num, no, num, no}, {no, no, no, no}}
	var l []signature
	for n, kinds := range map[int][4][4]int{
		api.OpOr: logic, api.OpAnd: logic,
		api.OpEq: order, api.OpNe: order, api.OpLt: order, api.OpLe: order, api.OpGt: order, api.OpGe: order,
		api.OpAdd: sums, api.OpSub: sums, api.OpMul: sums, api.OpDiv: sums, api.OpMod: sums,
	} {
		for left, row := range kinds {
			for right, kind := range row {
				l = append(l, signature{n, []int{left, right}, kind})
			}
		}
	}
	for n, kinds := range map[int][4]int{api.OpNot: {yes, yes, no, no}, api.OpNeg: {num, no, num, no}, api.OpNull: {yes, yes, yes, yes}, api.OpThere: {yes, yes, yes, yes}} {
		for part, kind := range kinds {
			l = append(l, signature{n, []int{part}, kind})
		}
	}
	return l
}

// checkType is that e has a type among the columns typed, or has none.
func checkType(t *testing.T, e api.Expr, want int) {
	t.Helper()
	got, no := types.Type(e, typed())
	if want == untyped && (got != 0 || no != api.ErrType) || want != untyped && (got != want || no != api.OK) {
		t.Errorf("%s: type %d, error %d, not %d", expr.Show(e), got, no, want)
	}
}

// P14.2: literals have their values' kinds, columns the types at their places.
func TestTypeLeaves(t *testing.T) {
	for _, x := range []struct {
		v    api.Value
		want int
	}{{value.Null(), api.KindNull}, {value.Bool(false), api.KindBool}, {value.Bool(true), api.KindBool}, {value.Int(0), api.KindInt}, {value.Int(api.MaxInt), api.KindInt}, {value.Text(""), api.KindText}, {value.Text("NULL"), api.KindText}} {
		checkType(t, lit(x.v), x.want)
		if got, no := types.Type(lit(x.v), nil); got != x.want || no != api.OK {
			t.Errorf("among no columns: %d, %d", got, no)
		}
	}
	for _, kind := range kinds {
		for _, e := range []api.Expr{place(kind), at(kind, ta), at(kind, col("s")), at(kind, of("t", "b"))} { // its name is not asked
			checkType(t, e, kind)
		}
		for _, e := range ofKind(kind) {
			checkType(t, e, kind)
		}
	}
	l := wide(1 << 16)
	for n := range api.MaxCols {
		if got, no := types.Type(place(n), l); got != l[n].Type || no != api.OK {
			t.Errorf("place %d: %d, %d", n, got, no)
		}
	}
}

// P14.2: each operator of parts of each type.
func TestTypeOps(t *testing.T) {
	seen := map[int]int{}
	for _, s := range signatures() {
		seen[s.n]++
		for _, left := range ofKind(s.parts[0]) {
			if len(s.parts) == 1 {
				checkType(t, op(s.n, left), s.kind)
				continue
			}
			for _, right := range ofKind(s.parts[1]) {
				checkType(t, op(s.n, left, right), s.kind)
			}
		}
	}
	for n := api.OpOr; n <= api.OpThere; n++ {
		if seen[n] != 4 && seen[n] != 16 {
			t.Errorf("operator %d: %d signatures", n, seen[n])
		}
	}
}

// P14.2: each aggregate of a part of each type.
func TestTypeAggs(t *testing.T) {
	checkType(t, rows, api.KindInt)
	const no, null, yes, num, word = untyped, api.KindNull, api.KindBool, api.KindInt, api.KindText
	for n, l := range map[int][4]int{
		api.AggCount: {num, num, num, num}, api.AggSum: {num, no, num, no}, api.AggMin: {null, yes, num, word}, api.AggMax: {null, yes, num, word},
	} {
		for part, want := range l {
			for _, e := range ofKind(part) {
				if expr.Check(agg(n, e)) == api.OK { // no aggregate stands within it
					checkType(t, agg(n, e), want)
				}
			}
		}
	}
}

// P14.2: no part is without a type, whatever it is a part of.
func TestTypeParts(t *testing.T) {
	wrong := []api.Expr{op(api.OpNot, one), op(api.OpAdd, one, yes), op(api.OpEq, word, one), op(api.OpNeg, word), op(api.OpOr, yes, one), op(api.OpAnd, word, none)}
	for _, e := range append(wrong, agg(api.AggSum, yes), agg(api.AggMin, op(api.OpNot, one)), agg(api.AggCount, op(api.OpNeg, word))) {
		for _, e := range []api.Expr{e, op(api.OpNull, e), op(api.OpThere, op(api.OpNull, e)), op(api.OpEq, none, e), op(api.OpEq, e, none), op(api.OpEq, e, e), op(api.OpAnd, yes, op(api.OpNull, e)), op(api.OpLt, op(api.OpNull, e), none)} {
			checkType(t, e, untyped)
		}
	}
	for _, e := range wrong {
		for n := api.AggCount; n <= api.AggMax; n++ {
			checkType(t, agg(n, e), untyped)
			checkType(t, op(api.OpNull, agg(n, op(api.OpNull, e))), untyped)
		}
	}
}

// P14.2: a place that is none of the columns.
func TestTypePlaces(t *testing.T) {
	for _, x := range []struct{ place, cols int }{{0, 0}, {1, 1}, {4, 4}, {31, 31}, {31, 0}, {5, 4}} {
		bad := place(x.place)
		for _, e := range []api.Expr{bad, op(api.OpNull, bad), op(api.OpEq, none, bad), op(api.OpEq, bad, none), agg(api.AggMin, bad), agg(api.AggCount, bad), op(api.OpAdd, rows, agg(api.AggSum, op(api.OpNeg, bad)))} {
			if got, no := types.Type(e, wide(x.cols)); got != 0 || no != api.ErrName {
				t.Errorf("%+v among %d: %d, %d", e, x.cols, got, no)
			}
		}
		if got, no := types.Type(bad, wide(x.place+1)); got != wide(x.place + 1)[x.place].Type || no != api.OK {
			t.Errorf("the last place %d: %d, %d", x.place, got, no)
		}
	}
}

// P14.2: of several errors the first one is told, parts ahead of what they are parts of, from the left.
func TestTypeFirst(t *testing.T) {
	name, kind := place(9), op(api.OpNot, one)
	for _, x := range []struct {
		e    api.Expr
		want api.Errno
	}{
		{op(api.OpAnd, name, kind), api.ErrName}, {op(api.OpAnd, kind, name), api.ErrType},
		{op(api.OpAdd, name, yes), api.ErrName}, {op(api.OpAdd, yes, name), api.ErrName}, // the sum is asked behind its parts
		{op(api.OpNot, op(api.OpAdd, word, name)), api.ErrName}, {op(api.OpAnd, op(api.OpAdd, word, one), name), api.ErrType}, {op(api.OpAnd, name, op(api.OpAdd, word, one)), api.ErrName},
		{op(api.OpEq, op(api.OpNull, op(api.OpNull, kind)), name), api.ErrType}, {op(api.OpEq, op(api.OpNull, op(api.OpNull, name)), kind), api.ErrName},
		{op(api.OpAnd, op(api.OpOr, yes, kind), op(api.OpOr, name, yes)), api.ErrType}, {op(api.OpAnd, op(api.OpOr, one, yes), op(api.OpOr, name, yes)), api.ErrType},
		{op(api.OpAnd, op(api.OpOr, one, name), op(api.OpOr, kind, yes)), api.ErrName}, {op(api.OpAnd, op(api.OpOr, kind, name), yes), api.ErrType},
		{op(api.OpAdd, agg(api.AggSum, word), agg(api.AggSum, name)), api.ErrType}, {op(api.OpAdd, agg(api.AggSum, name), agg(api.AggSum, word)), api.ErrName},
		{agg(api.AggSum, op(api.OpAnd, name, one)), api.ErrName}, {agg(api.AggSum, op(api.OpAnd, op(api.OpAnd, yes, one), name)), api.ErrType},
	} {
		if got, no := types.Type(x.e, typed()); got != 0 || no != x.want {
			t.Errorf("%+v: %d, %d, not %d", x.e, got, no, x.want)
		}
	}
}

// P14.2: a column has the type at its place, whatever number that is.
func TestTypeOdd(t *testing.T) {
	b, c := place(1), place(2)
	for _, kind := range []int{-1, api.KindText + 1, 9, 256 + api.KindInt, 1 << 60, math.MinInt, math.MaxInt} {
		l := []api.Column{{Name: "a", Type: kind}, {Name: "b", Type: api.KindInt}, {Name: "c", Type: kind ^ 64}, {Name: "d", Type: kind}}
		for _, x := range []struct {
			e    api.Expr
			kind int
			no   api.Errno
		}{
			{a, kind, api.OK}, {agg(api.AggMin, a), kind, api.OK}, {agg(api.AggMax, a), kind, api.OK}, {b, api.KindInt, api.OK}, {c, kind ^ 64, api.OK},
			{op(api.OpNull, a), api.KindBool, api.OK}, {op(api.OpThere, a), api.KindBool, api.OK}, {agg(api.AggCount, a), api.KindInt, api.OK}, {agg(api.AggSum, a), 0, api.ErrType},
			{op(api.OpNot, a), 0, api.ErrType}, {op(api.OpNeg, a), 0, api.ErrType}, {op(api.OpEq, agg(api.AggMin, a), a), api.KindBool, api.OK},
			{op(api.OpAnd, a, place(9)), 0, api.ErrName}, {op(api.OpAnd, op(api.OpNot, a), place(9)), 0, api.ErrType},
		} {
			checkTypeAmong(t, x.e, l, x.kind, x.no)
		}
		for n := api.OpOr; n <= api.OpMod; n++ {
			if n == api.OpNot {
				continue
			}
			want, no := 0, api.ErrType
			if n >= api.OpEq && n <= api.OpGe {
				want, no = api.KindBool, api.OK
			}
			for _, part := range []api.Expr{a, place(3), none} {
				checkTypeAmong(t, op(n, a, part), l, want, no)
				checkTypeAmong(t, op(n, part, a), l, want, no)
			}
			for _, part := range []api.Expr{b, c, yes, one, word} {
				checkTypeAmong(t, op(n, a, part), l, 0, api.ErrType)
				checkTypeAmong(t, op(n, part, a), l, 0, api.ErrType)
			}
		}
	}
}

// checkTypeAmong is that e has a type among columns, or that it is refused.
func checkTypeAmong(t *testing.T, e api.Expr, l []api.Column, want int, wantNo api.Errno) {
	t.Helper()
	if got, no := types.Type(e, l); got != want || no != wantNo {
		t.Errorf("%s, of type %d: %d, %d, not %d, %d", expr.Show(e), l[0].Type, got, no, want, wantNo)
	}
}

// P14.2: drawn expressions, held against what is said of each operator.
func TestTypeDrawn(t *testing.T) {
	r := rand.New(rand.NewSource(1))
	all := signatures()
	var model func(e api.Expr, cols int) (int, api.Errno)
	model = func(e api.Expr, cols int) (int, api.Errno) {
		var parts []int
		for _, part := range e.L {
			kind, no := model(part, cols)
			if no != api.OK {
				return 0, no
			}
			parts = append(parts, kind)
		}
		switch {
		case e.Kind == api.ExprLit:
			return e.V.Kind, api.OK
		case e.Kind == api.ExprCol && e.N < cols:
			return e.N, api.OK // so the columns typed have it
		case e.Kind == api.ExprCol:
			return 0, api.ErrName
		case e.Kind == api.ExprAgg && e.N <= api.AggCount:
			return api.KindInt, api.OK
		case e.Kind == api.ExprAgg && e.N >= api.AggMin:
			return parts[0], api.OK
		case e.Kind == api.ExprAgg: // a sum is of what may be summed
			e.N, parts = api.OpNeg, parts[:1]
		}
		i := slices.IndexFunc(all, func(s signature) bool { return s.n == e.N && slices.Equal(s.parts, parts) })
		if all[i].kind == untyped {
			return 0, api.ErrType
		}
		return all[i].kind, api.OK
	}
	ends := map[api.Errno]int{}
	for range 20000 {
		cols := 3 + r.Intn(2)
		e := draw(r, 1+r.Intn(4), true, func() api.Expr { return place(r.Intn(4)) })
		want, wantNo := model(e, cols)
		if got, no := types.Type(e, typed()[:cols]); got != want || no != wantNo {
			t.Fatalf("%+v among %d: %d, %d, not %d, %d", e, cols, got, no, want, wantNo)
		}
		ends[wantNo]++
	}
	if ends[api.OK] < 1000 || ends[api.ErrName] < 1000 || ends[api.ErrType] < 1000 {
		t.Error("too few:", ends)
	}
}

// P14.4: what is bound has a type, or none; never a place that is not there.
func TestTypeBound(t *testing.T) {
	for n := range api.MaxCols + 3 {
		l := wide(n)
		for i := range n {
			bound, no := types.Bind(of("t", nth(i)), l)
			if i >= api.MaxCols {
				if no != api.ErrName {
					t.Errorf("%d of %d: %d", i, n, no)
				}
				continue
			}
			if got, no := types.Type(bound, l); got != l[i].Type || no != api.OK {
				t.Errorf("%d of %d: %d, %d", i, n, got, no)
			}
			if got, no := types.Type(op(api.OpAdd, bound, bound), l); no != api.OK && no != api.ErrType {
				t.Errorf("%d of %d: %d, %d", i, n, got, no)
			}
		}
	}
}
