package denote

import (
	"cmp"
	"slices"

	"commissary/algebra"
	"commissary/api"
	"commissary/calc"
	"commissary/catalog"
	"commissary/row"
)

// teller gathers the rows that a node tells, of those that its parts tell.
type teller struct {
	node   api.Node
	tables []api.Table
	parts  [][][]api.Value
	rows   [][]api.Value
	many   bool // there were more than there may be
}

// put tells r. Behind the last row that there may be none is kept, but what comes is still
// asked for, as it may err, which goes first.
func (t *teller) put(r []api.Value) {
	if len(t.rows) == api.MaxResult {
		t.many = true
		return
	}
	t.rows = append(t.rows, r)
}

func (t *teller) putAll(l [][]api.Value) {
	for _, r := range l {
		t.put(r)
	}
}

// told is the rows, in the order in which the node tells them.
func (t *teller) told() ([][]api.Value, api.Errno) {
	if no := t.tell(); no != api.OK {
		return nil, no
	}
	if t.many {
		return nil, api.ErrMany
	}
	if !Ordered(t.node) {
		return row.Sort(t.rows), api.OK
	}
	return t.rows, api.OK
}

func (t *teller) tell() api.Errno {
	switch t.node.Op {
	case api.NodeScan:
		table, _ := catalog.Find(t.tables, t.node.Table)
		t.putAll(table.Rows)
	case api.NodeFilter:
		return t.each(t.filter)
	case api.NodeProject:
		return t.each(t.project)
	case api.NodeJoin:
		return t.join()
	case api.NodeGroup:
		return t.group()
	case api.NodeDistinct:
		t.putAll(slices.CompactFunc(row.Sort(t.parts[0]), row.Same))
	case api.NodeUnion:
		t.putAll(slices.Concat(t.parts...))
	case api.NodeSort:
		t.putAll(t.sorted())
	case api.NodeLimit:
		t.putAll(t.parts[0][:min(t.node.N, len(t.parts[0]))])
	}
	return api.OK
}

// each does what is done with a row to each of the first part's.
func (t *teller) each(do func(r []api.Value) api.Errno) api.Errno {
	for _, r := range t.parts[0] {
		if no := do(r); no != api.OK {
			return no
		}
	}
	return api.OK
}

func (t *teller) filter(r []api.Value) api.Errno {
	holds, no := calc.Holds(t.node.E, r)
	if holds {
		t.put(r)
	}
	return no
}

func (t *teller) project(r []api.Value) api.Errno {
	values, no := calc.Row(t.node.Es, r)
	if no == api.OK {
		t.put(values)
	}
	return no
}

// sorted is the first part's rows by places, those that stand alike there in the order of
// rows, whatever order the part tells them in.
func (t *teller) sorted() [][]api.Value {
	l := slices.Clone(t.parts[0])
	slices.SortFunc(l, func(a, b []api.Value) int {
		return cmp.Or(row.By(a, b, t.node.By, t.node.Down), row.Compare(a, b))
	})
	return l
}

// join stops at the first row too many only if nothing can err behind it.
func (t *teller) join() api.Errno {
	safe := !calc.Errs(t.node.E)
	return t.each(func(left []api.Value) api.Errno {
		if t.many && safe {
			return api.OK
		}
		return t.joinOne(left)
	})
}

// joinOne holds a row of the left side against each of the right one. Both are not joined by
// row, as those of a JoinSemi, a JoinAnti may be longer together than a row is.
func (t *teller) joinOne(left []api.Value) api.Errno {
	hasPartner := false
	for _, right := range t.parts[1] {
		both := slices.Concat(left, right)
		holds, no := calc.Holds(t.node.E, both)
		if no != api.OK {
			return no
		}
		if !holds {
			continue
		}
		hasPartner = true
		if t.node.Join == api.JoinInner || t.node.Join == api.JoinLeft {
			t.put(both)
		}
	}
	t.alone(left, hasPartner)
	return api.OK
}

// alone tells what a row of the left side comes to by itself.
func (t *teller) alone(left []api.Value, hasPartner bool) {
	switch t.node.Join {
	case api.JoinLeft:
		if !hasPartner {
			nulls, _ := row.Nulls(len(algebra.Columns(t.node.L[1])))
			t.put(slices.Concat(left, nulls))
		}
	case api.JoinSemi:
		if hasPartner {
			t.put(left)
		}
	case api.JoinAnti:
		if !hasPartner {
			t.put(left)
		}
	}
}
