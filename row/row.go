// Package row is layer 2: rows of values, as bytes. See shared/doc/02-row.md.
package row

import (
	"slices"

	"commissary/api"
	"commissary/value"
)

// Check tells whether r may be.
func Check(r []api.Value) api.Errno {
	odd := func(v api.Value) bool { return value.Check(v) != api.OK }
	if len(r) > api.MaxCols || slices.ContainsFunc(r, odd) {
		return api.ErrRow
	}
	return api.OK
}

// Compare is -1, 0, 1 as a comes ahead of b.
func Compare(a, b []api.Value) int {
	return slices.CompareFunc(a, b, value.Compare)
}

// Same tells whether a and b have the same values.
func Same(a, b []api.Value) bool {
	return Compare(a, b) == 0
}

// Pick is the values of r at cols.
func Pick(r []api.Value, cols []int) ([]api.Value, api.Errno) {
	missing := func(c int) bool { return !has(r, c) }
	if len(cols) > api.MaxCols || slices.ContainsFunc(cols, missing) {
		return nil, api.ErrArg
	}
	picked := make([]api.Value, len(cols))
	for i, c := range cols {
		picked[i] = r[c]
	}
	return picked, api.OK
}

// Join is a's values, and b's.
func Join(a, b []api.Value) ([]api.Value, api.Errno) {
	if len(a)+len(b) > api.MaxCols {
		return nil, api.ErrLong
	}
	return slices.Concat(a, b), api.OK
}

// Nulls is a row of n nulls.
func Nulls(n int) ([]api.Value, api.Errno) {
	if n < 0 || n > api.MaxCols {
		return nil, api.ErrArg
	}
	r := make([]api.Value, n)
	for i := range r {
		r[i] = value.Null()
	}
	return r, api.OK
}

// By is the order of a and b by their values at cols, turned round where down says so.
func By(a, b []api.Value, cols []int, down []bool) int {
	for i, c := range cols {
		order := value.Compare(at(a, c), at(b, c))
		if order == 0 {
			continue
		}
		if i < len(down) && down[i] {
			return -order
		}
		return order
	}
	return 0
}

// Sort is the rows of l in order. Each is copied, even those that stand there
// twice, so that no two lists of the answer share memory.
func Sort(l [][]api.Value) [][]api.Value {
	sorted := make([][]api.Value, len(l))
	for i, r := range l {
		sorted[i] = append([]api.Value(nil), r...)
	}
	slices.SortFunc(sorted, Compare)
	return sorted
}

func has(r []api.Value, i int) bool {
	return 0 <= i && i < len(r)
}

func at(r []api.Value, i int) api.Value {
	if has(r, i) {
		return r[i]
	}
	return value.Null()
}
