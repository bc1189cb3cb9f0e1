package show_test

import (
	"math"
	"math/rand"
	"strings"

	"commissary/api"
	"commissary/value"
)

// lit, op, agg and col are written out, so that the program's own are held against them.
func lit(v api.Value) api.Expr          { return api.Expr{Kind: api.ExprLit, V: v} }
func op(n int, l ...api.Expr) api.Expr  { return api.Expr{Kind: api.ExprOp, N: n, L: l} }
func agg(n int, l ...api.Expr) api.Expr { return api.Expr{Kind: api.ExprAgg, N: n, L: l} }
func col(name string) api.Expr          { return api.Expr{Kind: api.ExprCol, Col: name} }
func of(tab, name string) api.Expr      { return api.Expr{Kind: api.ExprCol, Tab: tab, Col: name} }

var (
	one  = lit(value.Int(1))
	yes  = lit(value.Bool(true))
	a    = col("a")
	b    = col("b")
	rows = agg(api.AggRows)
)

func star() api.Item             { return api.Item{Star: true} }
func item(e api.Expr) api.Item   { return api.Item{E: e} }
func from(t string) []api.Source { return []api.Source{{Table: t, As: t}} }

func joined(kind int, table, as string, on api.Expr) api.Source {
	return api.Source{Table: table, As: as, Join: kind, On: on}
}

// query is a query of parts, without keys and limit.
func query(parts ...api.Select) api.Query { return api.Query{Parts: parts, Limit: -1} }

// part is a part of items of the table t.
func part(l ...api.Item) api.Select { return api.Select{Items: l, From: from("t")} }

// full is a query that has something of all that one may have.
func full() api.Query {
	return api.Query{
		Parts: []api.Select{
			{
				Distinct: true,
				Items:    []api.Item{star(), item(a), {E: op(api.OpAdd, of("t", "a"), one), As: "n"}, item(agg(api.AggSum, b))},
				From: []api.Source{
					{Table: "t", As: "t"}, joined(api.JoinInner, "u", "v", op(api.OpEq, a, b)), joined(api.JoinLeft, "u", "u", yes),
					joined(api.JoinSemi, "w", "w", yes), joined(api.JoinAnti, "x", "y", op(api.OpNull, a)),
				},
				Where: op(api.OpLt, a, one),
				Group: []api.Expr{a, of("t", "b")},
			},
			part(star()),
		},
		Order: []api.Key{{Name: "a", Down: true}, {Name: "n"}},
		Limit: 5,
	}
}

// odd is what full is no more when something of it may not be.
func odd() []func(q *api.Query) {
	long := strings.Repeat("x", api.MaxName+1)
	return []func(q *api.Query){
		func(q *api.Query) { q.Parts = nil },
		func(q *api.Query) { q.Parts = make([]api.Select, 1) },
		func(q *api.Query) { q.Parts = append(q.Parts, api.Select{}) },
		func(q *api.Query) { q.Parts[0].Items = nil },
		func(q *api.Query) { q.Parts[0].Items[1].E = api.Expr{} },
		func(q *api.Query) { q.Parts[0].Items[1].E.N = 1 },
		func(q *api.Query) { q.Parts[0].Items[1].E = op(api.OpNot) },
		func(q *api.Query) { q.Parts[0].Items[2].As = "SELECT" },
		func(q *api.Query) { q.Parts[0].Items[2].As = long },
		func(q *api.Query) { q.Parts[0].Items[0].As = "n" },
		func(q *api.Query) { q.Parts[0].Items[0].E = a },
		func(q *api.Query) { q.Parts[0].Items = make([]api.Item, api.MaxItems+1) },
		func(q *api.Query) { q.Parts[0].From = nil },
		func(q *api.Query) { q.Parts[0].From[0].Join = api.JoinInner },
		func(q *api.Query) { q.Parts[0].From[0].On = yes },
		func(q *api.Query) { q.Parts[0].From[1].Join = api.JoinFirst },
		func(q *api.Query) { q.Parts[0].From[1].Join = api.JoinAnti + 1 },
		func(q *api.Query) { q.Parts[0].From[1].On = api.Expr{} },
		func(q *api.Query) { q.Parts[0].From[1].On = rows },
		func(q *api.Query) { q.Parts[0].From[1].As = "" },
		func(q *api.Query) { q.Parts[0].From[0].Table = "a b" },
		func(q *api.Query) { q.Parts[0].Where = rows },
		func(q *api.Query) { q.Parts[0].Where = lit(value.Int(-1)) },
		func(q *api.Query) { q.Parts[0].Group[0] = one },
		func(q *api.Query) { q.Parts[0].Group = make([]api.Expr, api.MaxGroups+1) },
	}
}

// oddQueries is queries that may not be, though their parts may.
func oddQueries() []func(q *api.Query) {
	return []func(q *api.Query){
		func(q *api.Query) { q.Limit = -2 },
		func(q *api.Query) { q.Limit = math.MinInt },
		func(q *api.Query) { q.Limit = api.MaxInt + 1 },
		func(q *api.Query) { q.Order[0].Name = "" },
		func(q *api.Query) { q.Order[1].Name = "DESC" },
		func(q *api.Query) { q.Order = make([]api.Key, api.MaxKeys+1) },
		func(q *api.Query) { q.Order = append(q.Order, api.Key{}) },
		func(q *api.Query) {
			for len(q.Parts) <= api.MaxParts {
				q.Parts = append(q.Parts, q.Parts[1])
			}
		},
	}
}

// drawer draws queries that may be, but for how large their expressions are.
type drawer struct{ r *rand.Rand }

func (d drawer) maybe() bool { return d.r.Intn(2) == 0 }

func (d drawer) name() string {
	l := []string{"a", "b", "t", "u", "as", "x_1", "Null", strings.Repeat("z", api.MaxName)}
	return l[d.r.Intn(len(l))]
}

// some is from least to most things that f draws.
func some[T any](d drawer, least, most int, f func() T) []T {
	l := make([]T, least+d.r.Intn(most-least+1))
	for i := range l {
		l[i] = f()
	}
	return l
}

func (d drawer) query() api.Query {
	limits := []int{-1, -1, 0, 1, 12, api.MaxInt}
	return api.Query{Parts: some(d, 1, 1+d.r.Intn(api.MaxParts), d.part), Order: some(d, 0, d.r.Intn(api.MaxKeys+1), d.key), Limit: limits[d.r.Intn(len(limits))]}
}

func (d drawer) key() api.Key { return api.Key{Name: d.name(), Down: d.maybe()} }

func (d drawer) part() api.Select {
	s := api.Select{Distinct: d.maybe(), Items: some(d, 1, 1+d.r.Intn(api.MaxItems), d.item), From: some(d, 1, api.MaxSources, d.source), Group: some(d, 0, d.r.Intn(api.MaxGroups+1), d.column)}
	s.From[0].Join, s.From[0].On = api.JoinFirst, api.Expr{}
	if d.maybe() {
		s.Where = d.expr(1+d.r.Intn(4), false)
	}
	return s
}

func (d drawer) item() api.Item {
	if d.r.Intn(4) == 0 {
		return star()
	}
	i := item(d.expr(1+d.r.Intn(4), true))
	if d.maybe() {
		i.As = d.name()
	}
	return i
}

func (d drawer) source() api.Source {
	s := joined(api.JoinInner+d.r.Intn(4), d.name(), "", d.expr(1+d.r.Intn(3), false))
	s.As = s.Table
	if d.maybe() {
		s.As = d.name()
	}
	return s
}

func (d drawer) column() api.Expr {
	if d.maybe() {
		return of(d.name(), d.name())
	}
	return col(d.name())
}

// expr is an expression of so many levels at most; aggregates stand in it, if agged.
func (d drawer) expr(levels int, agged bool) api.Expr {
	values := []api.Value{{}, value.Bool(false), value.Bool(true), value.Int(0), value.Int(api.MaxInt), value.Text(""), value.Text("'"), value.Text("--"), value.Text("a ) FROM t"), value.Text("\n\x00é\xff")}
	kind := d.r.Intn(8)
	switch {
	case kind == 0 || levels == 1 && kind < 4:
		return lit(values[d.r.Intn(len(values))])
	case kind == 1 || levels == 1:
		return d.column()
	case kind == 2 && agged:
		if n := api.AggRows + d.r.Intn(5); n != api.AggRows {
			return agg(n, d.expr(levels-1, false))
		}
		return rows
	}
	n := api.OpOr + d.r.Intn(api.OpThere)
	if n == api.OpNot || n >= api.OpNeg {
		return op(n, d.expr(levels-1, agged))
	}
	return op(n, d.expr(levels-1, agged), d.expr(levels-1, agged))
}
