package calc_test

import (
	"math"
	"math/rand"
	"slices"
	"testing"

	"commissary/api"
	"commissary/calc"
	"commissary/value"
)

// checkFold is that an aggregate of l is v, or that it is refused.
func checkFold(t *testing.T, agg int, l []api.Value, v api.Value, no api.Errno) {
	t.Helper()
	if got, errno := calc.Fold(agg, l); got != v || errno != no {
		t.Errorf("aggregate %d of %v: %v, %d, not %v, %d", agg, l, got, errno, v, no)
	}
}

// P16.2: each aggregate of no values, of nulls alone, and of others.
func TestFold(t *testing.T) {
	const most = api.MaxInt
	for _, c := range []struct {
		l                []api.Value
		rows, count      int
		sum, least, last api.Value
		no               api.Errno
	}{
		{nil, 0, 0, null, null, null, api.OK},
		{row(), 0, 0, null, null, null, api.OK},
		{row(null), 1, 0, null, null, null, api.OK},
		{row(null, null, null), 3, 0, null, null, null, api.OK},
		{row(num(0)), 1, 1, num(0), num(0), num(0), api.OK},
		{row(num(5)), 1, 1, num(5), num(5), num(5), api.OK},
		{row(null, num(5), null), 3, 1, num(5), num(5), num(5), api.OK},
		{row(num(3), num(-1), num(2), num(-1)), 4, 4, num(3), num(-1), num(3), api.OK},
		{row(num(-3), null, num(-7)), 3, 2, num(-10), num(-7), num(-3), api.OK},
		{row(num(most)), 1, 1, num(most), num(most), num(most), api.OK},
		{row(num(most-1), num(1)), 2, 2, num(most), num(1), num(most - 1), api.OK},
		{row(num(most), num(-1), num(1)), 3, 3, num(most), num(-1), num(most), api.OK},
		{row(num(most), num(1)), 2, 2, api.Value{}, num(1), num(most), api.ErrArith},
		{row(num(most), num(1), num(-1)), 3, 3, api.Value{}, num(-1), num(most), api.ErrArith},
		{row(num(1), null, num(most), num(-most)), 4, 3, api.Value{}, num(-most), num(most), api.ErrArith},
		{row(num(-most), num(-1), num(1)), 3, 3, api.Value{}, num(-most), num(1), api.ErrArith},
		{row(num(-1), num(1), num(-most)), 3, 3, num(-most), num(-most), num(1), api.OK},
		{row(text("b"), text("a"), text("ab"), null), 4, 3, api.Value{}, text("a"), text("b"), api.ErrArith},
		{row(yes, no), 2, 2, api.Value{}, no, yes, api.ErrArith},
		{row(text("")), 1, 1, api.Value{}, text(""), text(""), api.ErrArith},
		{row(yes), 1, 1, api.Value{}, yes, yes, api.ErrArith},
		{row(num(1), text("a")), 2, 2, api.Value{}, num(1), text("a"), api.ErrArith},
		{row(text("a"), num(1), yes, null), 4, 3, api.Value{}, yes, text("a"), api.ErrArith},
		{row(num(most), num(1), yes), 3, 3, api.Value{}, yes, num(most), api.ErrArith},
	} {
		checkFold(t, api.AggRows, c.l, num(c.rows), api.OK)
		checkFold(t, api.AggCount, c.l, num(c.count), api.OK)
		checkFold(t, api.AggSum, c.l, c.sum, c.no)
		checkFold(t, api.AggMin, c.l, c.least, api.OK)
		checkFold(t, api.AggMax, c.l, c.last, api.OK)
	}
}

// P16.2: values that may not be, alone and beside others.
func TestFoldStrange(t *testing.T) {
	for _, v := range strange() {
		for _, l := range [][]api.Value{row(v), row(v, num(1)), row(num(1), v), row(num(1), num(2), v), row(v, null), row(null, num(2), v, num(-2))} {
			there := slices.DeleteFunc(slices.Clone(l), func(x api.Value) bool { return x.Kind == api.KindNull })
			sum, no := api.Value{}, api.ErrArith
			least, furthest := null, null
			if len(there) > 0 {
				least, furthest = slices.MinFunc(there, value.Compare), slices.MaxFunc(there, value.Compare)
			}
			if v.Kind == api.KindNull { // null by its kind, so it is left out
				sum, no = calc.Fold(api.AggSum, there)
			}
			checkFold(t, api.AggRows, l, num(len(l)), api.OK)
			checkFold(t, api.AggCount, l, num(len(there)), api.OK)
			checkFold(t, api.AggSum, l, sum, no)
			checkFold(t, api.AggMin, l, least, api.OK)
			checkFold(t, api.AggMax, l, furthest, api.OK)
		}
	}
}

// P16.2: numbers of aggregates that are none.
func TestFoldNone(t *testing.T) {
	for _, n := range []int{api.AggRows - 1, api.AggMax + 1, -1, math.MinInt, math.MaxInt, 256 + api.AggSum} {
		for _, l := range [][]api.Value{nil, row(num(1)), row(text("a"), null), strange()} {
			checkFold(t, n, l, api.Value{}, api.ErrArg)
		}
	}
}

// P16.2, P16.3: drawn ints, nulls among them, held against a plain count; folded bit by bit it is the same.
func TestFoldDrawn(t *testing.T) {
	r := rand.New(rand.NewSource(1))
	for range 20000 {
		var l []api.Value
		sum, count, beyond := 0, 0, false
		for range r.Intn(6) {
			if r.Intn(4) == 0 {
				l = append(l, null)
				continue
			}
			n := numbers()[r.Intn(len(numbers()))]
			l = append(l, num(n))
			sum += n
			count++
			beyond = beyond || sum > api.MaxInt || sum < -api.MaxInt
		}
		want, no := num(sum), api.OK
		switch {
		case beyond:
			want, no = api.Value{}, api.ErrArith
		case count == 0:
			want = null
		}
		checkFold(t, api.AggCount, l, num(count), api.OK)
		checkFold(t, api.AggSum, l, want, no)
		for _, n := range []int{api.AggSum, api.AggMin, api.AggMax} {
			got, no := api.Value{}, api.OK
			for _, v := range l {
				if no == api.OK {
					got, no = calc.Fold(n, row(got, v))
				}
			}
			checkFold(t, n, l, got, no)
			if value.Check(got) != api.OK {
				t.Fatalf("aggregate %d of %v: %v", n, l, got)
			}
		}
	}
}
