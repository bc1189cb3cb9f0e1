package denote_test

import (
	"math/rand"
	"slices"
	"strings"
	"testing"

	"commissary/api"
	"commissary/calc"
	"commissary/catalog"
	"commissary/denote"
	"commissary/expr"
	"commissary/parse"
	"commissary/types"
	"commissary/value"
)

// meaning tells what a query means, from its text's parts, without a tree.
type meaning struct {
	c    []api.Table
	errs bool
}

// told is columns, and rows of them.
type told struct {
	cols []api.Column
	rows [][]api.Value
}

func (m *meaning) holds(e api.Expr, cols []api.Column, r []api.Value) bool {
	bound, _ := types.Bind(e, cols)
	holds, no := calc.Holds(bound, r)
	m.errs = m.errs || no != api.OK
	return holds
}

func (m *meaning) eval(e api.Expr, cols []api.Column, r []api.Value) api.Value {
	bound, _ := types.Bind(e, cols)
	v, no := calc.Eval(bound, r)
	m.errs = m.errs || no != api.OK
	return v
}

// sources is the rows of all sources together.
func (m *meaning) sources(s api.Select) told {
	var all told
	for _, source := range s.From {
		table, _ := catalog.Find(m.c, source.Table)
		right := told{catalog.Columns(table, source.As), table.Rows}
		if source.Join == api.JoinFirst {
			all = right
			continue
		}
		both := slices.Concat(all.cols, right.cols)
		var rows [][]api.Value
		for _, l := range all.rows {
			partners := slices.DeleteFunc(slices.Clone(right.rows), func(r []api.Value) bool { return !m.holds(source.On, both, slices.Concat(l, r)) })
			if source.Join == api.JoinLeft && len(partners) == 0 {
				partners = [][]api.Value{make([]api.Value, len(right.cols))}
			}
			switch {
			case source.Join == api.JoinSemi && len(partners) > 0, source.Join == api.JoinAnti && len(partners) == 0:
				rows = append(rows, l)
			case source.Join == api.JoinInner, source.Join == api.JoinLeft:
				for _, r := range partners {
					rows = append(rows, slices.Concat(l, r))
				}
			}
		}
		all.rows = rows
		if source.Join == api.JoinInner || source.Join == api.JoinLeft {
			all.cols = both
		}
	}
	return all
}

func inOrder(l [][]api.Value) [][]api.Value {
	l = slices.Clone(l)
	slices.SortFunc(l, func(a, b []api.Value) int { return slices.CompareFunc(a, b, value.Compare) })
	return l
}

// groups is the rows of each group; without names of groups all rows are one.
func (m *meaning) groups(s api.Select, all told) [][][]api.Value {
	if len(s.Group) == 0 {
		return [][][]api.Value{inOrder(all.rows)}
	}
	key := func(r []api.Value) (l []api.Value) {
		for _, column := range s.Group {
			l = append(l, m.eval(column, all.cols, r))
		}
		return l
	}
	var groups [][][]api.Value
	for _, r := range inOrder(all.rows) {
		place := slices.IndexFunc(groups, func(g [][]api.Value) bool { return slices.Equal(key(g[0]), key(r)) })
		if place < 0 {
			groups = append(groups, nil)
			place = len(groups) - 1
		}
		groups[place] = append(groups[place], r)
	}
	return groups
}

// ofGroup is what an item comes to of a group.
func (m *meaning) ofGroup(e api.Expr, cols []api.Column, g [][]api.Value) api.Value {
	switch e.Kind {
	case api.ExprLit:
		return e.V
	case api.ExprCol:
		return m.eval(e, cols, g[0])
	case api.ExprAgg:
		return m.fold(e, cols, g)
	}
	left := m.ofGroup(e.L[0], cols, g)
	if len(e.L) == 1 {
		v, no := calc.Eval(op(e.N, at(0)), []api.Value{left})
		m.errs = m.errs || no != api.OK
		return v
	}
	if e.N == api.OpAnd && left == value.Bool(false) || e.N == api.OpOr && left == value.Bool(true) {
		return left
	}
	v, no := calc.Eval(op(e.N, at(0), at(1)), []api.Value{left, m.ofGroup(e.L[1], cols, g)})
	m.errs = m.errs || no != api.OK
	return v
}

func (m *meaning) fold(e api.Expr, cols []api.Column, g [][]api.Value) api.Value {
	l := make([]api.Value, len(g))
	for i, r := range g {
		if len(e.L) > 0 {
			l[i] = m.eval(e.L[0], cols, r)
		}
	}
	v, no := calc.Fold(e.N, l)
	m.errs = m.errs || no != api.OK
	return v
}

func (m *meaning) part(s api.Select) [][]api.Value {
	all := m.sources(s)
	if s.Where.Kind != 0 {
		all.rows = slices.DeleteFunc(slices.Clone(all.rows), func(r []api.Value) bool { return !m.holds(s.Where, all.cols, r) })
	}
	var told [][]api.Value
	if len(s.Group) > 0 || slices.ContainsFunc(s.Items, func(i api.Item) bool { return len(expr.Aggs(i.E)) > 0 }) {
		for _, g := range m.groups(s, all) {
			var r []api.Value
			for _, i := range s.Items {
				for _, agg := range expr.Aggs(i.E) {
					m.fold(agg, all.cols, g)
				}
				r = append(r, m.ofGroup(i.E, all.cols, g))
			}
			told = append(told, r)
		}
	} else {
		for _, r := range all.rows {
			var values []api.Value
			for _, i := range s.Items {
				if i.Star {
					values = append(values, r...)
					continue
				}
				values = append(values, m.eval(i.E, all.cols, r))
			}
			told = append(told, values)
		}
	}
	if s.Distinct {
		told = slices.CompactFunc(inOrder(told), func(a, b []api.Value) bool { return slices.Equal(a, b) })
	}
	return told
}

// query is the rows that q means, whose columns are called by names.
func (m *meaning) query(q api.Query, names []string) [][]api.Value {
	var all [][]api.Value
	for _, s := range q.Parts {
		all = append(all, m.part(s)...)
	}
	all = inOrder(all)
	slices.SortStableFunc(all, func(a, b []api.Value) int {
		for _, key := range q.Order {
			place := slices.Index(names, key.Name)
			order := value.Compare(a[place], b[place])
			if key.Down {
				order = -order
			}
			if order != 0 {
				return order
			}
		}
		return 0
	})
	if q.Limit >= 0 && q.Limit < len(all) {
		return all[:q.Limit]
	}
	return all
}

// texts draws texts of queries.
type texts struct{ *rand.Rand }

func (r texts) one(l ...string) string { return l[r.Intn(len(l))] }

func (r texts) num(levels int, columns ...string) string {
	if levels == 0 || r.Intn(3) == 0 {
		return r.one(append(columns, "1", "NULL", "2")...)
	}
	return "(" + r.num(levels-1, columns...) + r.one(" + ", " - ", " * ", " + ", " - ", " / ") + r.num(levels-1, columns...) + ")"
}

func (r texts) truth(levels int, columns ...string) string {
	if levels == 0 || r.Intn(3) == 0 {
		return r.num(r.Intn(2), columns...) + r.one(" = ", " <> ", " < ", " >= ", " = ") + r.num(r.Intn(2), columns...)
	}
	return "(" + r.truth(levels-1, columns...) + r.one(" AND ", " OR ", " AND NOT ") + r.truth(levels-1, columns...) + ")"
}

// from draws sources, and a condition, and tells the columns that they have.
func (r texts) from() (string, []string) {
	from, columns := " FROM t", []string{"t.a", "t.b"}
	for _, name := range []string{"x", "y"}[:r.Intn(3)] {
		both := append(slices.Clone(columns), name+".a", name+".c")
		kind := r.one(" JOIN", " LEFT JOIN", " SEMI JOIN", " ANTI JOIN")
		from += kind + " u AS " + name + " ON " + r.truth(r.Intn(3), both...)
		if kind == " JOIN" || kind == " LEFT JOIN" {
			columns = both
		}
	}
	if r.Intn(3) == 0 {
		from += " WHERE " + r.truth(2, columns...)
	}
	return from, columns
}

// part draws a part that tells two ints, called n and m: 0 is added, as null alone would be no int.
func (r texts) part() string {
	from, columns := r.from()
	words := "SELECT " + r.one("", "", "DISTINCT ")
	if r.Intn(2) == 0 {
		return words + r.num(2, columns...) + " + 0 AS n, " + r.num(1, columns...) + " + 0 AS m" + from
	}
	keys := columns[:r.Intn(len(columns)+1)]
	things := append(slices.Clone(keys), "COUNT(*)", "SUM("+r.num(1, columns...)+")", r.one("MIN(", "MAX(", "COUNT(")+r.num(1, columns...)+")")
	text := words + r.num(2, things...) + " + 0 AS n, SUM(" + r.num(1, columns...) + ") AS m" + from
	if len(keys) == 0 {
		return text
	}
	return text + " GROUP BY " + strings.Join(keys, ", ")
}

func (r texts) query() string {
	text := r.part()
	for range r.Intn(3) {
		text += " UNION ALL " + r.part()
	}
	return text + r.one("", " ORDER BY n", " ORDER BY m DESC, n") + r.one("", "", " LIMIT 0", " LIMIT 3")
}

func (r texts) table(name string, names ...string) api.Table {
	t := api.Table{Name: name}
	for _, n := range names {
		t.Cols = append(t.Cols, api.Column{Name: n, Type: num})
	}
	for range r.Intn(6) {
		var l []api.Value
		for range names {
			l = append(l, []api.Value{value.Null(), value.Int(r.Intn(4)), value.Int(r.Intn(3) + 1)}[r.Intn(3)])
		}
		t.Rows = append(t.Rows, l)
	}
	return t
}

// P18.1: what the tree of a query tells is what the query means, and it errs just if that does.
func TestMeaning(t *testing.T) {
	r := texts{rand.New(rand.NewSource(18))}
	ends := map[api.Errno]int{}
	for range 4000 {
		c := []api.Table{r.table("t", "a", "b"), r.table("u", "a", "c")}
		text := r.query()
		n := bound(t, text, c...)
		got, no := denote.Rows(n, c)
		ends[no]++
		q, _, _ := parse.Parse(text)
		m := &meaning{c: c}
		want := m.query(q, []string{"n", "m"})
		if m.errs != (no == api.ErrArith) || no != api.OK && no != api.ErrArith {
			t.Fatalf("%s: %d", text, no)
		}
		if no == api.OK && !slices.EqualFunc(got, want, func(a, b []api.Value) bool { return slices.Equal(a, b) }) {
			t.Fatalf("%s: %v, not %v", text, got, want)
		}
		if no == api.OK && !denote.Same(n, got, want) {
			t.Fatalf("%s: not the same", text)
		}
	}
	if ends[api.OK] < 1000 || ends[api.ErrArith] < 100 {
		t.Errorf("how the drawn queries end: %v", ends)
	}
}

// P18.1: stars, of rows of all kinds.
func TestMeaningOfStars(t *testing.T) {
	c := []api.Table{t3(), table("u", 1, "2, -1, _, 2")}
	for _, text := range []string{
		"SELECT * FROM t3", "SELECT *, * FROM t3 AS x WHERE x.c0 IS NULL", "SELECT DISTINCT * FROM t3", "SELECT * FROM t3 LEFT JOIN u ON c1 = u.c0",
		"SELECT *, c1 + 1 FROM t3 SEMI JOIN u ON c1 = u.c0 WHERE c2 IS NULL", "SELECT * FROM u JOIN t3 ON u.c0 <> c1 UNION ALL SELECT NULL, * FROM t3",
	} {
		q, _, _ := parse.Parse(text)
		got, no := denote.Rows(bound(t, text, c...), c)
		m := &meaning{c: c}
		if want := m.query(q, nil); no != api.OK || m.errs || len(want) == 0 || !slices.EqualFunc(got, want, func(a, b []api.Value) bool { return slices.Equal(a, b) }) {
			t.Errorf("%s: %d, %v, not %v", text, no, got, want)
		}
	}
}

// P18.3: a filter of a filter is a filter of both, if nothing errs; each once, twice, is each once.
func TestFollows(t *testing.T) {
	r := texts{rand.New(rand.NewSource(19))}
	for range 500 {
		c := []api.Table{r.table("t", "a", "b"), r.table("u", "a", "c")}
		n := bound(t, r.query(), c...)
		condition := func() api.Expr {
			e, _, _ := parse.Expr(r.truth(2, "p", "q"))
			e, _ = types.Bind(e, []api.Column{{Name: "p"}, {Name: "q"}})
			return e
		}
		a, b := condition(), condition()
		twice, no := denote.Rows(filter(b, filter(a, n)), c)
		once, noOnce := denote.Rows(filter(op(api.OpAnd, a, b), n), c)
		if no == api.OK && noOnce == api.OK && !denote.Same(api.Node{}, once, twice) {
			t.Fatalf("%s, %s: %v, %v", expr.Show(a), expr.Show(b), once, twice)
		}
		each, no := denote.Rows(distinct(n), c)
		again, noAgain := denote.Rows(distinct(distinct(n)), c)
		if no != noAgain || !denote.Same(limit(0, n), each, again) {
			t.Fatalf("each once: %d, %v, twice: %d, %v", no, each, noAgain, again)
		}
	}
}
