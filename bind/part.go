package bind

import (
	"slices"

	"commissary/algebra"
	"commissary/api"
	"commissary/catalog"
	"commissary/show"
	"commissary/types"
)

// bindPart is the tree of a part of a query that may be, over tables that may be.
func bindPart(s api.Select, c []api.Table) (api.Node, api.Errno) {
	m := &partMaker{part: s, tables: c}
	no := inOrder(m.join, m.filter, m.group, m.tellItems, m.project, m.distinct)
	return finished(m.tree, no)
}

// partMaker makes the tree of a part, from its sources up.
type partMaker struct {
	part   api.Select
	tables []api.Table
	tree   api.Node
	cols   []api.Column // those that the tree tells
	groups groups       // of a part that tells groups of rows
	items  []api.Expr
	named  []api.Column // the items' columns
}

// put lays n above the tree.
func (m *partMaker) put(n api.Node) {
	if m.tree.Op != 0 {
		n.L = slices.Concat([]api.Node{m.tree}, n.L)
	}
	m.tree = n
	m.cols = algebra.Columns(n)
}

func (m *partMaker) join() api.Errno {
	for i, source := range m.part.From {
		scan, no := m.scan(i)
		if no != api.OK {
			return no
		}
		if i == 0 {
			m.put(scan)
			continue
		}
		both := slices.Concat(m.cols, algebra.Columns(scan))
		if len(both) > api.MaxCols {
			return api.ErrLong
		}
		on, no := condition(source.On, both)
		if no != api.OK {
			return no
		}
		m.put(api.Node{Op: api.NodeJoin, Join: source.Join, E: on, L: []api.Node{scan}})
	}
	return api.OK
}

// scan is the rows of the source at place i.
func (m *partMaker) scan(i int) (api.Node, api.Errno) {
	source := m.part.From[i]
	table, ok := catalog.Find(m.tables, source.Table)
	if !ok {
		return api.Node{}, api.ErrNone
	}
	isNamesake := func(ahead api.Source) bool { return ahead.As == source.As }
	if slices.ContainsFunc(m.part.From[:i], isNamesake) {
		return api.Node{}, api.ErrName
	}
	return algebra.Scan(table, source.As), api.OK
}

// condition is e, bound among cols, if rows may be asked whether it holds of them.
func condition(e api.Expr, cols []api.Column) (api.Expr, api.Errno) {
	bound, kind, no := typed(e, cols)
	if no != api.OK {
		return api.Expr{}, no
	}
	if kind != api.KindBool && kind != api.KindNull {
		return api.Expr{}, api.ErrType
	}
	return bound, api.OK
}

// typed is e, bound among cols, and its type.
func typed(e api.Expr, cols []api.Column) (api.Expr, int, api.Errno) {
	bound, no := types.Bind(e, cols)
	if no != api.OK {
		return api.Expr{}, 0, no
	}
	kind, no := types.Type(bound, cols)
	if no != api.OK {
		return api.Expr{}, 0, no
	}
	return bound, kind, api.OK
}

func (m *partMaker) filter() api.Errno {
	if m.part.Where.Kind == 0 {
		return api.OK
	}
	where, no := condition(m.part.Where, m.cols)
	if no != api.OK {
		return no
	}
	m.put(api.Node{Op: api.NodeFilter, E: where})
	return api.OK
}

func (m *partMaker) project() api.Errno {
	if m.groups.there {
		m.put(m.groups.node())
	}
	m.put(api.Node{Op: api.NodeProject, Es: m.items, Cols: m.named})
	return api.OK
}

func (m *partMaker) distinct() api.Errno {
	if m.part.Distinct {
		m.put(api.Node{Op: api.NodeDistinct})
	}
	return api.OK
}

func (m *partMaker) tellItems() api.Errno {
	names := show.Columns(m.part)
	for i, item := range m.part.Items {
		if no := m.tellItem(item, names[i]); no != api.OK {
			return no
		}
	}
	return api.OK
}

func (m *partMaker) tellItem(item api.Item, name string) api.Errno {
	switch {
	case item.Star && m.groups.there:
		return api.ErrType
	case item.Star:
		m.tellAll()
		return api.OK
	}
	return m.tell(item.E, name)
}
