package algebra

import (
	"slices"

	"commissary/api"
	"commissary/expr"
	"commissary/lex"
	"commissary/types"
)

// told is the columns that n tells, if it may be. Nodes are counted ahead of all else, as
// a tree that has few of them is gone through in few steps.
func told(n api.Node) ([]api.Column, bool) {
	if count(n) > api.MaxTree {
		return nil, false
	}
	return tell(n)
}

// tell asks the parts ahead of n itself, as what n may be hangs on the columns that they tell.
func tell(n api.Node) ([]api.Column, bool) {
	var parts [][]api.Column
	for _, part := range n.L {
		cols, ok := tell(part)
		if !ok {
			return nil, false
		}
		parts = append(parts, cols)
	}
	if !Same(unnamed(n), api.Node{}) || !arePart(n.Op, len(parts)) || !fits(n, parts) {
		return nil, false
	}
	cols := columns(n, parts)
	if len(cols) == 0 || len(cols) > api.MaxCols {
		return nil, false
	}
	return cols, true
}

// unnamed is n without what its kind names.
func unnamed(n api.Node) api.Node {
	switch n.Op {
	case api.NodeScan:
		n.Table, n.Cols = "", nil
	case api.NodeFilter:
		n.E = api.Expr{}
	case api.NodeProject:
		n.Cols, n.Es = nil, nil
	case api.NodeJoin:
		n.E, n.Join = api.Expr{}, 0
	case api.NodeGroup:
		n.Cols, n.Es, n.By = nil, nil, nil
	case api.NodeSort:
		n.By, n.Down = nil, nil
	case api.NodeLimit:
		n.N = 0
	}
	n.Op, n.L = 0, nil
	return n
}

// arePart tells whether a node of the kind op has so many parts.
func arePart(op, parts int) bool {
	switch op {
	case api.NodeScan:
		return parts == 0
	case api.NodeJoin:
		return parts == 2
	case api.NodeUnion:
		return parts >= 1
	}
	return parts == 1
}

// fits tells whether what n's kind names is as it has it, n's parts telling columns.
func fits(n api.Node, parts [][]api.Column) bool {
	switch n.Op {
	case api.NodeScan:
		return lex.Name(n.Table) && !slices.ContainsFunc(n.Cols, isUntyped)
	case api.NodeFilter:
		return isCondition(n.E, parts[0])
	case api.NodeProject:
		return areOf(n.Es, n.Cols, parts[0], hasNoAgg)
	case api.NodeJoin:
		return api.JoinInner <= n.Join && n.Join <= api.JoinAnti && isCondition(n.E, slices.Concat(parts...))
	case api.NodeGroup:
		return arePlaces(n.By, parts[0]) && areRising(n.By) && areOf(n.Es, n.Cols, parts[0], isAgg)
	case api.NodeDistinct:
		return true
	case api.NodeUnion:
		return areAlike(parts)
	case api.NodeSort:
		return arePlaces(n.By, parts[0]) && len(n.By) == len(n.Down)
	case api.NodeLimit:
		return n.N >= 0
	}
	return false
}

// columns is the columns that n tells, n's parts telling theirs.
func columns(n api.Node, parts [][]api.Column) []api.Column {
	switch n.Op {
	case api.NodeScan, api.NodeProject:
		return append([]api.Column(nil), n.Cols...)
	case api.NodeGroup:
		var cols []api.Column
		for _, place := range n.By {
			cols = append(cols, parts[0][place])
		}
		return append(cols, n.Cols...)
	case api.NodeJoin:
		if n.Join == api.JoinInner || n.Join == api.JoinLeft {
			return slices.Concat(parts...)
		}
	}
	return parts[0]
}

func isUntyped(c api.Column) bool {
	return c.Type < api.KindBool || c.Type > api.KindText
}

// isCondition tells whether e may stand where rows of cols are asked whether it holds.
func isCondition(e api.Expr, cols []api.Column) bool {
	kind, no := types.Type(e, cols)
	return no == api.OK && (kind == api.KindBool || kind == api.KindNull) && hasNoAgg(e)
}

// areOf tells whether es are expressions among cols, of which is holds, of the types of as.
func areOf(es []api.Expr, as, cols []api.Column, is func(e api.Expr) bool) bool {
	if len(es) != len(as) || len(as) > api.MaxCols {
		return false
	}
	for i, e := range es {
		kind, no := types.Type(e, cols)
		if no != api.OK || kind != as[i].Type || !is(e) {
			return false
		}
	}
	return true
}

func hasNoAgg(e api.Expr) bool {
	return len(expr.Aggs(e)) == 0
}

func isAgg(e api.Expr) bool {
	return e.Kind == api.ExprAgg
}

func arePlaces(by []int, cols []api.Column) bool {
	return !slices.ContainsFunc(by, func(place int) bool { return place < 0 || place >= len(cols) })
}

// areRising tells whether each of by is beyond the one ahead of it.
func areRising(by []int) bool {
	for i := range len(by) - 1 {
		if by[i] >= by[i+1] {
			return false
		}
	}
	return true
}

// areAlike tells whether all parts' columns may stand where the first one's do.
func areAlike(parts [][]api.Column) bool {
	first := parts[0]
	goesFor := func(c, as api.Column) bool { return c.Type == as.Type || c.Type == api.KindNull }
	return !slices.ContainsFunc(parts, func(cols []api.Column) bool {
		return !slices.EqualFunc(cols, first, goesFor)
	})
}
