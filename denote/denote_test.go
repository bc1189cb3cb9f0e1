package denote_test

import (
	"math"
	"strconv"
	"strings"
	"testing"

	"commissary/api"
	"commissary/denote"
	"commissary/value"
)

// t3 is a table of three kinds of values.
func t3() api.Table {
	r := func(z, n, s api.Value) []api.Value { return []api.Value{z, n, s} }
	no, x, nothing := value.Bool(false), value.Text("x"), value.Null()
	return api.Table{Name: "t3", Cols: cols(yes, num, word), Rows: [][]api.Value{r(value.Bool(true), value.Int(2), x), r(no, value.Int(-1), nothing), r(nothing, nothing, x), r(no, value.Int(-1), nothing)}}
}

// P18.1: trees that may not be go first, then catalogs, then tables that are not there.
func TestFits(t *testing.T) {
	good, bad := []api.Table{table("t", 2, "1 2"), t3()}, []api.Table{table("t", 0, "")}
	odd := api.Node{Op: api.NodeScan, Table: "t", Cols: []api.Column{{Tab: "x", Name: "other", Type: num}, {Type: num}}}
	for _, x := range []struct {
		why  string
		n    api.Node
		c    []api.Table
		want api.Errno
	}{
		{"a scan", scan("t", num, num), good, api.OK},
		{"a scan whose columns have other names", odd, good, api.OK},
		{"a scan of three types", filter(at(0), scan("t3", yes, num, word)), good, api.OK},
		{"no tree", api.Node{}, good, api.ErrTree},
		{"no tree, no catalog", api.Node{}, bad, api.ErrTree},
		{"a filter of what is no condition", filter(at(0), scan("t", num, num)), good, api.ErrTree},
		{"a group of nothing", group(nil, scan("t", num, num)), good, api.ErrTree},
		{"a limit below 0", limit(-1, scan("t", num, num)), bad, api.ErrTree},
		{"no tree of what is not there", distinct(limit(math.MinInt, scan("u", num))), good, api.ErrTree},
		{"a scan of what may be, no catalog", scan("t", num, num), bad, api.ErrTable},
		{"a scan of what is not there, no catalog", scan("u", num, num), bad, api.ErrTable},
		{"a catalog of a table twice", scan("t", num, num), append(good, good[0]), api.ErrTable},
		{"not there", scan("u", num, num), good, api.ErrNone},
		{"of another case", scan("T", num, num), good, api.ErrNone},
		{"no tables", scan("t", num, num), nil, api.ErrNone},
		{"too few columns", scan("t", num), good, api.ErrNone},
		{"too many columns", scan("t", num, num, num), good, api.ErrNone},
		{"another type", scan("t", num, word), good, api.ErrNone},
		{"types in another order", scan("t3", yes, word, num), good, api.ErrNone},
		{"on the right", union(scan("t", num, num), scan("t", num, num), distinct(scan("u", num, num))), good, api.ErrNone},
		{"on the left", join(api.JoinSemi, truth, scan("u", num), scan("t", num, num)), good, api.ErrNone},
		{"deep", limit(0, order(group(nil, project(filter(truth, scan("u", num)), one), rows))), good, api.ErrNone},
	} {
		if got := denote.Fits(x.n, x.c); got != x.want {
			t.Errorf("%s: Fits %d, not %d", x.why, got, x.want)
		}
		l, no := denote.Rows(x.n, x.c)
		if no != x.want || no != api.OK && len(l) != 0 {
			t.Errorf("%s: Rows %d, not %d", x.why, no, x.want)
		}
	}
}

// P18.1: a scan's rows, in the order of rows.
func TestScan(t *testing.T) {
	wantRows(t, scan("t", num, num), "", table("t", 2, ""))
	wantRows(t, scan("t", num, num), "_ _, _ 1, -3 5, 1 _, 1 2, 1 2, 2 1", table("u", 1, "7"), table("t", 2, "2 1, 1 2, _ 1, 1 _, _ _, 1 2, -3 5"))
	wantRows(t, scan("t3", yes, num, word), "_ _ 'x', FALSE -1 _, FALSE -1 _, TRUE 2 'x'", t3())
}

// P18.1: of a filter those rows of which its condition holds: not where it is null.
func TestFilter(t *testing.T) {
	x, s := table("t", 2, "3 1, _ 1, 1 2, 2 0, 3 1, -1 _"), scan("t", num, num)
	wantRows(t, filter(op(api.OpGt, at(0), one), s), "2 0, 3 1, 3 1", x)
	wantRows(t, filter(op(api.OpNot, op(api.OpGt, at(0), one)), s), "-1 _, 1 2", x)
	wantRows(t, filter(truth, s), "_ 1, -1 _, 1 2, 2 0, 3 1, 3 1", x)
	wantRows(t, filter(none, s), "", x)
	wantRows(t, filter(op(api.OpNull, at(0)), s), "_ 1", x)
	wantRows(t, filter(at(0), scan("t3", yes, num, word)), "TRUE 2 'x'", t3())
	wantRows(t, filter(errs, s), "1 2, 2 0, 3 1, 3 1", x)
	wantNo(t, filter(errs, s), api.ErrArith, table("t", 2, "3 1, 1 2, 0 5, 1 1"))
	wantNo(t, filter(op(api.OpOr, errs, truth), s), api.ErrArith, table("t", 2, "0 0"))
	wantRows(t, filter(op(api.OpAnd, errs, op(api.OpLt, at(1), one)), s), "3 0", table("t", 2, "3 0, 0 5, 0 1"))
	wantNo(t, filter(op(api.OpAnd, errs, op(api.OpLt, at(1), one)), s), api.ErrArith, table("t", 2, "3 0, 0 5, 0 0"))
	wantRows(t, filter(errs, s), "", table("t", 2, ""))
}

// P18.1: of a project the values of each row.
func TestProject(t *testing.T) {
	x, s := table("t", 2, "3 1, _ 1, 1 2, 3 1"), scan("t", num, num)
	wantRows(t, project(s, at(1)), "1, 1, 1, 2", x)
	wantRows(t, project(s, op(api.OpNeg, at(0)), at(1), one), "_ 1 1, -3 1 1, -3 1 1, -1 2 1", x)
	wantRows(t, project(s, one), "", table("t", 2, ""))
	wantNo(t, project(s, at(1), op(api.OpDiv, one, at(0))), api.ErrArith, table("t", 2, "3 1, 1 1, 0 0, 1 1"))
	wantNo(t, project(s, op(api.OpAdd, at(0), one)), api.ErrArith, table("t", 2, "1 1, 9007199254740991 1"))
}

// P18.1: joins of each kind, with no rows on one side, and with no, one and many partners.
func TestJoin(t *testing.T) {
	on := op(api.OpEq, at(0), at(2))
	for _, x := range []struct{ left, right, inner, outer, semi, anti string }{
		{"", "", "", "", "", ""},
		{"", "1 1", "", "", "", ""},
		{"2 1, 1 1, 1 1", "", "", "1 1 _ _, 1 1 _ _, 2 1 _ _", "", "1 1, 1 1, 2 1"},
		{"1 5", "1 6", "1 5 1 6", "1 5 1 6", "1 5", ""},
		{"1 5", "2 6", "", "1 5 _ _", "", "1 5"},
		{"3 0, 1 5, 2 4", "2 9, 2 7, 4 4, 1 1", "1 5 1 1, 2 4 2 7, 2 4 2 9", "1 5 1 1, 2 4 2 7, 2 4 2 9, 3 0 _ _", "1 5, 2 4", "3 0"},
		{"1 5, 1 5, 1 6, 7 7, 7 7", "1 1, 1 1", "1 5 1 1, 1 5 1 1, 1 5 1 1, 1 5 1 1, 1 6 1 1, 1 6 1 1", "1 5 1 1, 1 5 1 1, 1 5 1 1, 1 5 1 1, 1 6 1 1, 1 6 1 1, 7 7 _ _, 7 7 _ _", "1 5, 1 5, 1 6", "7 7, 7 7"},
		{"_ 1, 1 1", "_ 1, 1 2", "1 1 1 2", "_ 1 _ _, 1 1 1 2", "1 1", "_ 1"},
	} {
		c := []api.Table{table("t", 2, x.left), table("u", 2, x.right)}
		for kind, want := range map[int]string{api.JoinInner: x.inner, api.JoinLeft: x.outer, api.JoinSemi: x.semi, api.JoinAnti: x.anti} {
			wantRows(t, join(kind, on, scan("t", num, num), scan("u", num, num)), want, c...)
		}
	}
	c := []api.Table{table("t", 1, "1, 2"), table("u", 2, "3 4, 3 4")}
	for kind, want := range map[int]string{api.JoinInner: "1 3 4, 1 3 4, 2 3 4, 2 3 4", api.JoinLeft: "1 3 4, 1 3 4, 2 3 4, 2 3 4", api.JoinSemi: "1, 2", api.JoinAnti: ""} {
		wantRows(t, join(kind, truth, scan("t", num), scan("u", num, num)), want, c...)
	}
	for kind, want := range map[int]string{api.JoinInner: "", api.JoinLeft: "1 _ _, 2 _ _", api.JoinSemi: "", api.JoinAnti: "1, 2"} {
		wantRows(t, join(kind, none, scan("t", num), scan("u", num, num)), want, c...)
	}
}

// P18.1: whatever a join tells, it errs if one pair does, even where another partner was found.
func TestJoinErrs(t *testing.T) {
	on := op(api.OpGt, op(api.OpDiv, one, op(api.OpSub, at(0), at(1))), zero)
	s, u := scan("t", num), scan("u", num)
	for kind, want := range map[int]string{api.JoinInner: "2 1, 5 4", api.JoinLeft: "2 1, 5 4", api.JoinSemi: "2, 5", api.JoinAnti: ""} {
		n := join(kind, on, s, u)
		wantNo(t, n, api.ErrArith, table("t", 1, "1, 2"), table("u", 1, "1, 3"))
		wantNo(t, n, api.ErrArith, table("t", 1, "2"), table("u", 1, "1, 2"))
		wantNo(t, n, api.ErrArith, table("t", 1, "2"), table("u", 1, "2, 1"))
		wantNo(t, n, api.ErrArith, table("t", 1, "4, 3, 2"), table("u", 1, "1, 0, _, 2"))
		wantRows(t, n, strings.Split(want, ", ")[0], table("t", 1, "2"), table("u", 1, "1"))
		wantRows(t, n, "", table("t", 1, ""), table("u", 1, "1"))
	}
	safeFirst := op(api.OpAnd, on, op(api.OpNe, at(0), at(1)))
	wantRows(t, join(api.JoinInner, safeFirst, s, u), "2 1", table("t", 1, "1, 2"), table("u", 1, "1, 2"))
}

// P18.1: a pair may have more values than a row, where one side alone is told.
func TestWideJoin(t *testing.T) {
	c := []api.Table{table("w", 16, strings.Repeat("1 ", 15)+"2, "+strings.Repeat("3 ", 15)+"4"), table("n", 1, "2")}
	wide := join(api.JoinInner, truth, scan("w", ints(16)...), scan("w", ints(16)...))
	on := op(api.OpEq, at(15), at(31))
	for kind, want := range map[int]int{api.JoinSemi: 2, api.JoinAnti: 2} {
		l, no := denote.Rows(join(kind, on, wide, wide), c)
		if no != api.OK || len(l) != want || len(l[0]) != 32 {
			t.Errorf("kind %d: %d, %s", kind, no, text(l))
		}
	}
	wantRows(t, group(nil, join(api.JoinLeft, op(api.OpEq, at(15), at(16)), scan("w", ints(16)...), scan("n", num)), agg(api.AggCount, at(16)), rows), "1 2", c...)
}

// P18.1, example 1: groups, of no rows, of nulls alone, of nulls beside others, each aggregate of them.
func TestGroup(t *testing.T) {
	aggs := []api.Expr{rows, agg(api.AggCount, at(1)), agg(api.AggSum, at(1)), agg(api.AggMin, at(1)), agg(api.AggMax, at(1))}
	s := scan("t", num, num)
	wantRows(t, group(nil, s, rows), "0", table("t", 2, ""))
	wantRows(t, group(nil, s, aggs...), "0 0 _ _ _", table("t", 2, ""))
	wantRows(t, group([]int{0}, s, aggs...), "", table("t", 2, ""))
	wantRows(t, group([]int{0, 1}, s), "", table("t", 2, ""))
	wantRows(t, group(nil, s, aggs...), "2 0 _ _ _", table("t", 2, "1 _, 2 _"))
	wantRows(t, group([]int{0}, s, aggs...), "1 2 0 _ _ _, 2 1 0 _ _ _", table("t", 2, "1 _, 2 _, 1 _"))
	x := table("t", 2, "2 5, _ 3, 1 _, 1 4, _ _, 1 -2, 2 5")
	wantRows(t, group(nil, s, aggs...), "7 5 15 -2 5", x)
	wantRows(t, group([]int{0}, s, aggs...), "_ 2 1 3 3 3, 1 3 2 2 -2 4, 2 2 2 10 5 5", x)
	wantRows(t, group([]int{0}, s), "_, 1, 2", x)
	wantRows(t, group([]int{0, 1}, s, rows), "_ _ 1, _ 3 1, 1 _ 1, 1 -2 1, 1 4 1, 2 5 2", x)
	wantRows(t, group([]int{1}, s, agg(api.AggSum, op(api.OpMul, at(0), at(1)))), "_ _, -2 -2, 3 _, 4 4, 5 20", x)
}

// P18.1: a group errs if a part does, or a sum on the way, in the order of rows.
func TestGroupErrs(t *testing.T) {
	s, big := scan("t", num, num), "9007199254740991"
	sum := agg(api.AggSum, at(1))
	wantNo(t, group([]int{0}, s, sum), api.ErrArith, table("t", 2, "1 1, 2 "+big+", 2 1, 3 1"))
	wantNo(t, group([]int{0}, s, rows, sum), api.ErrArith, table("t", 2, "3 1, 1 -"+big+", 1 -1"))
	wantRows(t, group([]int{0}, s, sum), "1 1, 2 "+big, table("t", 2, "2 "+big+", 1 1"))
	of := func(e api.Expr) api.Expr { return agg(api.AggCount, e) }
	parts := []api.Expr{rows, of(at(1)), sum, agg(api.AggMin, op(api.OpDiv, one, at(1))), of(op(api.OpMod, one, at(1))), agg(api.AggMax, op(api.OpAdd, at(1), at(0)))}
	wantNo(t, group([]int{0}, s, parts...), api.ErrArith, table("t", 2, "1 1, 2 0, 3 1"))
	wantRows(t, group([]int{0}, s, parts...), "1 1 1 1 1 1 2", table("t", 2, "1 1"))
	wantNo(t, group([]int{0}, s, of(op(api.OpNeg, op(api.OpSub, at(1), one)))), api.ErrArith, table("t", 2, "1 1, 1 -"+big))
	// in the order of rows -1 comes ahead of 1, whatever order they are told in
	x := table("t", 2, "1 "+big+", 2 -1, 3 1")
	wantRows(t, group(nil, s, sum), big, x)
	wantRows(t, group(nil, order(s, -1), sum), big, x)
	wantRows(t, group(nil, limit(3, order(s, 1)), sum), big, x)
	x = table("t", 2, "1 "+big+", 2 1, 3 -1")
	wantNo(t, group(nil, s, sum), api.ErrArith, x)
	wantNo(t, group(nil, order(s, -1), sum), api.ErrArith, x)
	wantNo(t, group(nil, limit(3, order(s, 1)), sum), api.ErrArith, x)
}

// P18.1: each once of rows that stand there often; unions of the same rows.
func TestDistinctUnion(t *testing.T) {
	s, x := scan("t", num, num), table("t", 2, "1 2, _ _, 1 2, 1 _, _ _, 1 2, 0 3")
	wantRows(t, distinct(s), "_ _, 0 3, 1 _, 1 2", x)
	wantRows(t, distinct(s), "", table("t", 2, ""))
	wantRows(t, distinct(order(s, 1)), "_ _, 0 3, 1 _, 1 2", x)
	wantRows(t, union(s), "_ _, _ _, 0 3, 1 _, 1 2, 1 2, 1 2", x)
	x = table("t", 2, "2 0, 1 0")
	wantRows(t, union(s, s), "1 0, 1 0, 2 0, 2 0", x)
	wantRows(t, union(s, scan("u", num, num), distinct(s)), "0 7, 1 0, 1 0, 1 5, 2 0, 2 0", x, table("u", 2, "1 5, 0 7"))
	wantRows(t, union(order(s, -1), filter(none, s)), "1 0, 2 0", x)
	nulls := api.Node{Op: api.NodeProject, Cols: cols(null, num), Es: []api.Expr{none, one}, L: []api.Node{s}}
	wantRows(t, union(s, nulls), "_ 1, _ 1, 1 0, 2 0", x)
}

// P18.1: sorts by no places, by some that go down, of rows that stand alike there; limits.
func TestOrder(t *testing.T) {
	s, x := scan("t", num, num), table("t", 2, "2 1, 1 3, _ 2, 1 2, 2 3, 1 2, 3 _")
	wantRows(t, order(s), "_ 2, 1 2, 1 2, 1 3, 2 1, 2 3, 3 _", x)
	wantRows(t, order(s, 0), "_ 2, 1 2, 1 2, 1 3, 2 1, 2 3, 3 _", x)
	wantRows(t, order(s, -1), "3 _, 2 1, 2 3, 1 2, 1 2, 1 3, _ 2", x)
	wantRows(t, order(s, 1), "3 _, 2 1, _ 2, 1 2, 1 2, 1 3, 2 3", x)
	wantRows(t, order(s, -2), "1 3, 2 3, _ 2, 1 2, 1 2, 2 1, 3 _", x)
	wantRows(t, order(s, -2, -1), "2 3, 1 3, 1 2, 1 2, _ 2, 2 1, 3 _", x)
	wantRows(t, order(s, 1, 1, -2), "3 _, 2 1, _ 2, 1 2, 1 2, 1 3, 2 3", x)
	wantRows(t, order(order(s, -1), 1), "3 _, 2 1, _ 2, 1 2, 1 2, 1 3, 2 3", x)
	wantRows(t, order(s, 1), "", table("t", 2, ""))
	for n, want := range []string{"", "_ 2", "_ 2, 1 2", "_ 2, 1 2, 1 2", "_ 2, 1 2, 1 2, 1 3"} {
		wantRows(t, limit(n, s), want, x)
		wantRows(t, limit(n, limit(4, s)), want, x)
		wantRows(t, limit(4, limit(n, s)), want, x)
	}
	for n, want := range []string{"", "3 _", "3 _, 2 1", "3 _, 2 1, 2 3"} {
		wantRows(t, limit(n, order(s, -1)), want, x)
	}
	for _, n := range []int{7, 8, api.MaxInt, math.MaxInt} {
		wantRows(t, limit(n, order(s, 1)), "3 _, 2 1, _ 2, 1 2, 1 2, 1 3, 2 3", x)
		wantRows(t, limit(n, s), "_ 2, 1 2, 1 2, 1 3, 2 1, 2 3, 3 _", x)
	}
	wantRows(t, order(limit(3, order(s, -1)), 0), "2 1, 2 3, 3 _", x)
	wantRows(t, filter(truth, limit(3, order(s, -1))), "2 1, 2 3, 3 _", x)
	wantRows(t, limit(2, filter(truth, order(s, -1))), "_ 2, 1 2", x)
	wantNo(t, limit(0, filter(errs, s)), api.ErrArith, table("t", 2, "1 1, 0 1"))
}

// P18.1: of many rows that stand alike, below another order, the order of rows is that of all alike.
func TestManyAlike(t *testing.T) {
	x, s := many("t", 200), scan("t", num)
	alike := project(s, op(api.OpMod, at(0), lit(value.Int(3))), at(0))
	var want []string
	for rest := range 3 {
		for n := 1; n <= 200; n++ {
			if n%3 == rest {
				want = append(want, strconv.Itoa(rest)+" "+strconv.Itoa(n))
			}
		}
	}
	for _, n := range []api.Node{order(alike, 0), order(order(alike, -2), 0), order(limit(200, order(alike, 1)), 0)} {
		wantRows(t, n, strings.Join(want, ", "), x)
	}
}

// cross is n rows of t beside each of m rows of u.
func cross(n, m int) (api.Node, []api.Table) {
	return join(api.JoinInner, truth, scan("t", num), scan("u", num)), []api.Table{many("t", n), many("u", m), table("o", 1, "0")}
}

// P18.1: MaxResult rows, and one more.
func TestMany(t *testing.T) {
	full, c := cross(4096, 16)
	wantCount := func(n api.Node, want int) {
		t.Helper()
		if l, no := denote.Rows(n, c); no != api.OK || len(l) != want {
			t.Errorf("%d, %d rows, not %d", no, len(l), want)
		}
	}
	pair := scan("o", num)
	pairs := project(pair, zero, zero)
	wantCount(full, api.MaxResult)
	wantCount(union(full), api.MaxResult)
	wantCount(union(full, filter(none, full)), api.MaxResult)
	wantCount(group(nil, full, rows), 1)
	wantCount(join(api.JoinLeft, none, full, pair), api.MaxResult)
	wantCount(join(api.JoinSemi, truth, full, pair), api.MaxResult)
	wantCount(order(full, -1), api.MaxResult)
	for _, more := range []api.Node{
		union(full, pairs), union(pairs, full), group(nil, union(pairs, full), rows), limit(0, union(full, full)), filter(none, union(full, pairs)),
		join(api.JoinInner, truth, full, scan("u", num)), join(api.JoinLeft, op(api.OpEq, at(1), at(1)), full, scan("u", num)),
		join(api.JoinAnti, truth, union(full, pairs), pair), join(api.JoinSemi, none, pair, union(full, pairs)), distinct(project(union(full, pairs), one)),
	} {
		wantNo(t, more, api.ErrMany, c...)
	}
	n, oneLess := cross(3855, 17)
	c = oneLess
	wantCount(n, api.MaxResult-1)
	n, more := cross(3856, 17)
	wantNo(t, n, api.ErrMany, more...)
}

// P18.1: of several errors the first one, parts ahead of what they are parts of, from the left; within a node ErrArith.
func TestWhichError(t *testing.T) {
	full, c := cross(4096, 17)
	o := scan("o", num)
	odd := project(filter(errs, o), one, one)
	wantNo(t, odd, api.ErrArith, c...)
	wantNo(t, full, api.ErrMany, c...)
	wantNo(t, union(full, odd), api.ErrMany, c...)
	wantNo(t, union(odd, full), api.ErrArith, c...)
	wantNo(t, join(api.JoinSemi, truth, odd, full), api.ErrArith, c...)
	wantNo(t, join(api.JoinAnti, truth, full, odd), api.ErrMany, c...)
	wantNo(t, project(full, op(api.OpDiv, one, zero)), api.ErrMany, c...)
	wantNo(t, union(o, project(union(o, o), op(api.OpDiv, one, at(0)))), api.ErrArith, c...)
	// the last pair of all errs, long behind the row that is one too many
	last := op(api.OpNe, op(api.OpDiv, one, op(api.OpSub, op(api.OpAdd, at(0), at(1)), lit(value.Int(4096+17)))), lit(value.Int(7)))
	wantNo(t, join(api.JoinInner, last, scan("t", num), scan("u", num)), api.ErrArith, c...)
	wantNo(t, join(api.JoinLeft, last, scan("t", num), scan("u", num)), api.ErrArith, c...)
	never := op(api.OpNe, op(api.OpDiv, one, op(api.OpSub, op(api.OpAdd, at(0), at(1)), lit(value.Int(4096+18)))), lit(value.Int(7)))
	wantNo(t, join(api.JoinInner, never, scan("t", num), scan("u", num)), api.ErrMany, c...)
}

// P18.2: which trees are ordered, and which rows are the same.
func TestSame(t *testing.T) {
	for kind := -1; kind < 12; kind++ {
		n := api.Node{Op: kind, L: []api.Node{order(scan("t", num), 0)}}
		ordered := kind == api.NodeSort || kind == api.NodeLimit
		if denote.Ordered(n) != ordered {
			t.Errorf("Ordered of kind %d", kind)
		}
		for _, x := range []struct {
			a, b     string
			any, one bool
		}{
			{"", "", true, true}, {"1 2", "1 2", true, true}, {"1 2, 3 4", "1 2, 3 4", true, true}, {"1 2, 3 4", "3 4, 1 2", true, false},
			{"1, 1, 2", "1, 2, 1", true, false}, {"1, 1, 2", "1, 2, 2", false, false}, {"1, 1", "1", false, false}, {"1", "", false, false}, {"1, 2, 3", "1, 2", false, false},
			{"1 2", "1", false, false}, {"1 2", "2 1", false, false}, {"_", "_", true, true}, {"_", "0", false, false}, {"2, 1, _, 3", "3, _, 1, 2", true, false}, {"1, 2", "1, 3", false, false},
		} {
			want := x.any
			if ordered {
				want = x.one
			}
			if denote.Same(n, values(x.a), values(x.b)) != want || denote.Same(n, values(x.b), values(x.a)) != want {
				t.Errorf("kind %d: Same of %s and %s is not %t", kind, x.a, x.b, want)
			}
		}
	}
	odd := [][]api.Value{{{Kind: 9, S: "x"}}, nil, {}, make([]api.Value, 99)}
	turned := [][]api.Value{make([]api.Value, 99), {}, nil, {{Kind: 9, S: "x"}}}
	if !denote.Same(api.Node{}, odd, turned) || denote.Same(limit(-1, api.Node{}), odd, turned) || !denote.Same(limit(-1, api.Node{}), odd, odd) {
		t.Error("Same of rows that may not be")
	}
	if text := value.Text("1"); denote.Same(api.Node{}, [][]api.Value{{text}}, values("1")) {
		t.Error("a text and an int")
	}
}
