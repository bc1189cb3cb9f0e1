package denote

import (
	"commissary/api"
	"commissary/calc"
	"commissary/row"
)

// group is rows with the same values at some places, and these values.
type group struct {
	key  []api.Value
	rows [][]api.Value
}

func (t *teller) group() api.Errno {
	for _, g := range t.groups() {
		r := g.key
		for _, agg := range t.node.Es {
			v, no := g.fold(agg)
			if no != api.OK {
				return no
			}
			r = append(r, v)
		}
		t.put(r)
	}
	return api.OK
}

// groups is the first part's rows by their values at places, each group's in the order of
// rows, whatever order the part tells them in: a sum may err on the way, and not in another order.
func (t *teller) groups() []group {
	var groups []group
	places := map[string]int{}
	placeOf := func(key []api.Value) int {
		bytes, _ := row.Put(key)
		place, seen := places[string(bytes)]
		if !seen {
			place = len(groups)
			places[string(bytes)] = place
			groups = append(groups, group{key: key})
		}
		return place
	}
	if len(t.node.By) == 0 {
		placeOf(nil)
	}
	for _, r := range row.Sort(t.parts[0]) {
		key, _ := row.Pick(r, t.node.By)
		place := placeOf(key)
		groups[place].rows = append(groups[place].rows, r)
	}
	return groups
}

// fold is what an aggregate comes to of the group.
func (g group) fold(agg api.Expr) (api.Value, api.Errno) {
	var values []api.Value
	for _, r := range g.rows {
		v, no := part(agg, r)
		if no != api.OK {
			return api.Value{}, no
		}
		values = append(values, v)
	}
	return calc.Fold(agg.N, values)
}

// part is what an aggregate's part comes to of a row; null of one that has none.
func part(agg api.Expr, r []api.Value) (api.Value, api.Errno) {
	if agg.N == api.AggRows {
		return api.Value{Kind: api.KindNull}, api.OK
	}
	return calc.Eval(agg.L[0], r)
}
