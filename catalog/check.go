package catalog

import (
	"slices"

	"commissary/api"
	"commissary/lex"
	"commissary/row"
)

// Check tells whether the catalog c may be.
func Check(c []api.Table) api.Errno {
	oddName := oddNames()
	odd := func(t api.Table) bool { return oddName(t.Name) || !isTable(t) }
	if len(c) > api.MaxTables || slices.ContainsFunc(c, odd) {
		return api.ErrTable
	}
	return api.OK
}

// Table tells whether t may be.
func Table(t api.Table) api.Errno {
	if isTable(t) {
		return api.OK
	}
	return api.ErrTable
}

func isTable(t api.Table) bool {
	return lex.Name(t.Name) && areColumns(t.Cols) && areRows(t.Rows, t.Cols)
}

func areColumns(cols []api.Column) bool {
	oddName := oddNames()
	odd := func(c api.Column) bool { return oddName(c.Name) || c.Tab != "" || !isType(c.Type) }
	return 1 <= len(cols) && len(cols) <= api.MaxColumns && !slices.ContainsFunc(cols, odd)
}

// isType refuses null: a column's values may be null, whatever its type is.
func isType(kind int) bool {
	return api.KindBool <= kind && kind <= api.KindText
}

func areRows(rows [][]api.Value, cols []api.Column) bool {
	odd := func(r []api.Value) bool { return !Fits(cols, r) || row.Size(r) > api.MaxWidth }
	return len(rows) <= api.MaxRows && !slices.ContainsFunc(rows, odd)
}

// oddNames tells of one name after the other whether it is none, or was told of already.
func oddNames() func(name string) bool {
	seen := map[string]struct{}{}
	return func(name string) bool {
		_, again := seen[name]
		seen[name] = struct{}{}
		return again || !lex.Name(name)
	}
}

// Fits tells whether r may be a row of the columns cols.
func Fits(cols []api.Column, r []api.Value) bool {
	if len(r) != len(cols) || row.Check(r) != api.OK {
		return false
	}
	for i, v := range r {
		if v.Kind != api.KindNull && v.Kind != cols[i].Type {
			return false
		}
	}
	return true
}
