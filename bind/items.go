package bind

import (
	"slices"

	"commissary/api"
	"commissary/expr"
	"commissary/types"
)

// aggName is what an aggregate's column is called.
const aggName = "agg"

// groups is what groups of rows are told by, among the columns of these rows.
type groups struct {
	there bool
	by    []int
	aggs  []api.Expr
	named []api.Column // the aggregates' columns
}

func (g *groups) node() api.Node {
	return api.Node{Op: api.NodeGroup, By: g.by, Es: g.aggs, Cols: g.named}
}

// columns is those that the groups tell so far, of rows of cols.
func (g *groups) columns(cols []api.Column) []api.Column {
	var told []api.Column
	for _, place := range g.by {
		told = append(told, cols[place])
	}
	return append(told, g.named...)
}

func (g *groups) place(agg api.Expr) int {
	return slices.IndexFunc(g.aggs, func(x api.Expr) bool { return expr.Same(x, agg) })
}

// put notes an aggregate of a type, if it isn't there already.
func (g *groups) put(agg api.Expr, kind int) {
	if g.place(agg) >= 0 {
		return
	}
	g.aggs = append(g.aggs, agg)
	g.named = append(g.named, api.Column{Name: aggName, Type: kind})
}

func (m *partMaker) group() api.Errno {
	m.groups.there = Grouped(m.part)
	for _, column := range m.part.Group {
		place, no := types.Find(m.cols, column.Tab, column.Col)
		if no != api.OK {
			return no
		}
		m.groups.by = append(m.groups.by, place)
	}
	slices.Sort(m.groups.by)
	m.groups.by = slices.Compact(m.groups.by)
	return api.OK
}

// tellAll makes items of all columns.
func (m *partMaker) tellAll() {
	for place, c := range m.cols {
		e := expr.Column(c.Tab, c.Name)
		e.N = place
		m.add(e, c.Name, c.Type)
	}
}

// add notes an item of a type.
func (m *partMaker) add(e api.Expr, name string, kind int) {
	m.items = append(m.items, e)
	m.named = append(m.named, api.Column{Name: name, Type: kind})
}

// tell makes an item of e.
func (m *partMaker) tell(e api.Expr, name string) api.Errno {
	if no := m.noteAggs(e); no != api.OK {
		return no
	}
	from, stands := m.cols, m.standsInRow
	if m.groups.there {
		from, stands = m.groups.columns(m.cols), m.standsInGroup
	}
	item, no := replace(e, stands)
	if no != api.OK {
		return no
	}
	if len(from) > api.MaxCols {
		return api.ErrLong
	}
	kind, no := types.Type(item, from)
	if no != api.OK {
		return no
	}
	m.add(item, name, kind)
	return api.OK
}

func (m *partMaker) noteAggs(e api.Expr) api.Errno {
	for _, agg := range expr.Aggs(e) {
		bound, kind, no := typed(agg, m.cols)
		if no != api.OK {
			return no
		}
		m.groups.put(bound, kind)
	}
	return api.OK
}

// replace is e, each column and aggregate of which is what stands tells for it.
func replace(e api.Expr, stands func(x api.Expr) (api.Expr, api.Errno)) (api.Expr, api.Errno) {
	if e.Kind == api.ExprCol || e.Kind == api.ExprAgg {
		return stands(e)
	}
	var parts []api.Expr
	for _, part := range e.L {
		x, no := replace(part, stands)
		if no != api.OK {
			return api.Expr{}, no
		}
		parts = append(parts, x)
	}
	e.L = parts
	return e, api.OK
}

// standsInRow is a column with its place in a row.
func (m *partMaker) standsInRow(column api.Expr) (api.Expr, api.Errno) {
	return types.Bind(column, m.cols)
}

// standsInGroup is a column with its place in what a group tells, or the column that an aggregate has there.
func (m *partMaker) standsInGroup(x api.Expr) (api.Expr, api.Errno) {
	bound, no := types.Bind(x, m.cols)
	if no != api.OK {
		return api.Expr{}, no
	}
	if x.Kind == api.ExprAgg {
		column := expr.Column("", aggName)
		column.N = len(m.groups.by) + m.groups.place(bound)
		return column, api.OK
	}
	place := slices.Index(m.groups.by, bound.N)
	if place < 0 {
		return api.Expr{}, api.ErrType
	}
	bound.N = place
	return bound, api.OK
}
