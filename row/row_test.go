package row_test

import (
	"math"
	"slices"
	"strings"
	"testing"

	"commissary/api"
	"commissary/row"
	"commissary/value"
)

func ints(l ...int) []api.Value {
	r := make([]api.Value, 0, len(l))
	for _, n := range l {
		r = append(r, value.Int(n))
	}
	return r
}

// ordered is rows in their order.
func ordered() [][]api.Value {
	null, no, yes := value.Null(), value.Bool(false), value.Bool(true)
	return [][]api.Value{
		{},
		{null},
		{null, null},
		{null, value.Text("z")},
		{no},
		{no, value.Text("z"), value.Text("z")},
		{yes},
		{value.Int(-api.MaxInt)},
		{value.Int(-1)},
		{value.Int(-1), value.Int(5)},
		{value.Int(-1), value.Int(5), null},
		{value.Int(-1), value.Int(6)},
		{value.Int(0)},
		{value.Int(1)},
		{value.Int(256)},
		{value.Int(api.MaxInt)},
		{value.Text("")},
		{value.Text(""), value.Text("")},
		{value.Text("a")},
		{value.Text("a\x00")},
		{value.Text("aa")},
		{value.Text(strings.Repeat("b", api.MaxText))},
		{value.Text("b\xff")},
	}
}

// odd is values that may not be.
func odd() []api.Value {
	return []api.Value{
		{N: 1}, {S: "x"}, {Kind: api.KindBool, N: 2}, {Kind: api.KindBool, N: -1}, {Kind: api.KindBool, S: "x"},
		value.Int(api.MaxInt + 1), value.Int(-api.MaxInt - 1), {Kind: api.KindInt, S: "x"},
		value.Text(strings.Repeat("x", api.MaxText+1)), {Kind: api.KindText, N: 1}, {Kind: 4}, {Kind: -1},
	}
}

// refused is rows that may not be.
func refused() [][]api.Value {
	var l [][]api.Value
	for _, v := range odd() {
		l = append(l, []api.Value{v}, []api.Value{value.Int(1), v}, []api.Value{v, value.Null()})
		full := make([]api.Value, api.MaxCols)
		full[api.MaxCols-1] = v
		l = append(l, full)
	}
	return append(l, make([]api.Value, api.MaxCols+1), make([]api.Value, 256), make([]api.Value, 257))
}

func sign(i, k int) int {
	if i < k {
		return -1
	}
	if i > k {
		return 1
	}
	return 0
}

// same holds rows against each other without the package's own help.
func same(a, b []api.Value) bool { return slices.Equal(a, b) }

// P2.1: what may be, and what may not.
func TestCheck(t *testing.T) {
	full := make([]api.Value, api.MaxCols)
	for i := range full {
		full[i] = value.Text(strings.Repeat("x", api.MaxText))
	}
	for _, r := range append(ordered(), nil, make([]api.Value, api.MaxCols), full) {
		if e := row.Check(r); e != api.OK {
			t.Errorf("Check(%v) = %d", r, e)
		}
	}
	for _, r := range refused() {
		if e := row.Check(r); e != api.ErrRow {
			t.Errorf("Check(%v) = %d", r, e)
		}
	}
}

// P2.1: the order of rows.
func TestCompareSame(t *testing.T) {
	l := ordered()
	for i, a := range l {
		for k, b := range l {
			if got := row.Compare(a, b); got != sign(i, k) {
				t.Errorf("Compare(%v, %v) = %d", a, b, got)
			}
			if got := row.Same(a, b); got != (i == k) {
				t.Errorf("Same(%v, %v) = %t", a, b, got)
			}
		}
	}
	if row.Compare(nil, []api.Value{}) != 0 || !row.Same(nil, []api.Value{}) || row.Same(nil, make([]api.Value, 1)) {
		t.Error("rows without values")
	}
	for _, r := range refused() {
		if row.Compare(r, slices.Clone(r)) != 0 || !row.Same(r, slices.Clone(r)) || row.Compare(r, append(slices.Clone(r), value.Null())) != -1 {
			t.Errorf("%v", r)
		}
	}
}

// P2.1: rows come in order, each as often as it stands there.
func TestSort(t *testing.T) {
	want := ordered()
	var l [][]api.Value
	for i := range want { // 7 and 23 have no divisor in common: each row once, out of order
		l = append(l, want[i*7%len(want)])
	}
	got := row.Sort(append(l, l...))
	if len(got) != 2*len(want) {
		t.Fatal(len(got))
	}
	for i, r := range got {
		if !same(r, want[i/2]) {
			t.Errorf("%d: %v, not %v", i, r, want[i/2])
		}
	}
	if len(row.Sort(nil)) != 0 || len(row.Sort([][]api.Value{})) != 0 {
		t.Error("of nothing there is something")
	}
	if got := row.Sort([][]api.Value{{{Kind: 9}}, make([]api.Value, 40), {{N: -1}}}); len(got) != 3 || got[0][0].N != -1 || len(got[1]) != 40 || got[2][0].Kind != 9 {
		t.Error(got)
	}
}

// P2.1, R3: what is sorted stays as it is, and shares nothing with the answer.
func TestSortShares(t *testing.T) {
	a, b := ints(2, 9)[:1], ints(1)
	l := [][]api.Value{a, b, a, ints(7)}[:3]
	got := row.Sort(l)
	if !same(l[0], a) || !same(l[1], b) || !same(l[2], a) || !same(l[:4][3], ints(7)) || a[:2][1].N != 9 {
		t.Error("the list is changed", l)
	}
	got[1][0] = value.Text("x")
	_ = append(got[1], value.Text("y"))
	if !same(a, ints(2)) || a[:2][1].N != 9 || !same(got[2], ints(2)) {
		t.Error("memory is shared", a, got)
	}
}

// P2.2: values at places.
func TestPick(t *testing.T) {
	r := ints(10, 11, 12)
	for _, x := range []struct{ cols, want []int }{
		{nil, nil}, {[]int{}, nil}, {[]int{0}, []int{10}}, {[]int{2, 0, 2, 1}, []int{12, 10, 12, 11}},
	} {
		if got, e := row.Pick(r, x.cols); e != api.OK || !same(got, ints(x.want...)) {
			t.Errorf("Pick(%v) = %v, %d", x.cols, got, e)
		}
	}
	if got, e := row.Pick(r, make([]int, api.MaxCols)); e != api.OK || len(got) != api.MaxCols || got[31] != r[0] {
		t.Error(got, e)
	}
	wide := make([]api.Value, 50)
	wide[49] = api.Value{Kind: 9}
	if got, e := row.Pick(wide, []int{49}); e != api.OK || len(got) != 1 || got[0] != wide[49] {
		t.Error(got, e)
	}
	for _, cols := range [][]int{{-1}, {3}, {0, 1, 2, 3}, {3, 0}, {0, -1}, {math.MaxInt}, {math.MinInt}, make([]int, api.MaxCols+1)} {
		if got, e := row.Pick(r, cols); e != api.ErrArg || len(got) != 0 {
			t.Errorf("Pick(%v) = %v, %d", cols, got, e)
		}
	}
	if got, e := row.Pick(nil, []int{0}); e != api.ErrArg || len(got) != 0 {
		t.Error(got, e)
	}
	got, _ := row.Pick(r, []int{0, 1})
	got[0] = value.Null()
	_ = append(got, value.Null())
	if !same(r, ints(10, 11, 12)) {
		t.Error("memory is shared", r)
	}
}

// P2.2: one row behind the other.
func TestJoin(t *testing.T) {
	a, b := ints(1, 2, 99)[:2], ints(3, 98)[:1]
	got, e := row.Join(a, b)
	if e != api.OK || !same(got, ints(1, 2, 3)) {
		t.Fatal(got, e)
	}
	got[0], got[2] = value.Null(), value.Null()
	_ = append(got, value.Null())
	if !same(a[:3], ints(1, 2, 99)) || !same(b[:2], ints(3, 98)) {
		t.Error("memory is shared", a, b)
	}
	for _, x := range []struct {
		a, b []api.Value
		want []api.Value
	}{{nil, nil, nil}, {a, nil, a}, {nil, b, b}, {a, a, ints(1, 2, 1, 2)}} {
		if got, e := row.Join(x.a, x.b); e != api.OK || !same(got, x.want) {
			t.Errorf("Join(%v, %v) = %v, %d", x.a, x.b, got, e)
		}
	}
	if got, _ := row.Join(a, nil); same(got, a) {
		got[0] = value.Null()
		if a[0] != value.Int(1) {
			t.Error("memory is shared", a)
		}
	}
	for n := range api.MaxCols + 1 {
		got, e := row.Join(make([]api.Value, n), make([]api.Value, api.MaxCols-n))
		if e != api.OK || len(got) != api.MaxCols {
			t.Error(n, len(got), e)
		}
		got, e = row.Join(make([]api.Value, n), make([]api.Value, api.MaxCols+1-n))
		if e != api.ErrLong || len(got) != 0 {
			t.Error(n, len(got), e)
		}
	}
}

// P2.2: so many nulls.
func TestNulls(t *testing.T) {
	for n := range api.MaxCols + 1 {
		if got, e := row.Nulls(n); e != api.OK || !same(got, make([]api.Value, n)) {
			t.Error(n, got, e)
		}
	}
	for _, n := range []int{-1, api.MaxCols + 1, math.MinInt, math.MaxInt} {
		if got, e := row.Nulls(n); e != api.ErrArg || len(got) != 0 {
			t.Error(n, got, e)
		}
	}
}

// P2.2: the order by places.
func TestBy(t *testing.T) {
	a, b := ints(1, 9, 4), ints(2, 9, 3, 7)
	for _, x := range []struct {
		cols []int
		down []bool
		want int
	}{
		{nil, nil, 0},
		{nil, []bool{true}, 0},
		{[]int{1}, nil, 0},
		{[]int{1}, []bool{true}, 0},
		{[]int{0}, nil, -1},
		{[]int{0}, []bool{false}, -1},
		{[]int{0}, []bool{true}, 1},
		{[]int{0, 2}, nil, -1},
		{[]int{2, 0}, nil, 1},
		{[]int{2, 0}, []bool{true, false}, -1},
		{[]int{2, 0}, []bool{false, true}, 1},
		{[]int{1, 0}, []bool{true}, -1},
		{[]int{1, 0}, []bool{false, true}, 1},
		{[]int{1, 0}, []bool{false, false, true}, -1},
		{[]int{1, 1, 2}, []bool{false, false, true}, -1},
		{[]int{3}, nil, -1}, // a has null there
		{[]int{3}, []bool{true}, 1},
		{[]int{4}, nil, 0},
		{[]int{-1, math.MaxInt, math.MinInt, 0}, nil, -1},
	} {
		if got := row.By(a, b, x.cols, x.down); got != x.want {
			t.Errorf("By(%v, %v) = %d", x.cols, x.down, got)
		}
		if got := row.By(b, a, x.cols, x.down); got != -x.want {
			t.Errorf("By(%v, %v) turned round = %d", x.cols, x.down, got)
		}
	}
	if row.By(nil, []api.Value{value.Null()}, []int{0}, nil) != 0 || row.By(nil, nil, []int{0, 1}, nil) != 0 {
		t.Error("a place that one has not is no null")
	}
	if row.By(nil, ints(-5), []int{0}, nil) != -1 || row.By([]api.Value{{Kind: -1}}, nil, []int{0}, nil) != -1 {
		t.Error("a place that one has not has another order than null")
	}
	if row.By(a, b, make([]int, 100), nil) != -1 {
		t.Error("many places")
	}
}
