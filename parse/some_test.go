package parse_test

import (
	"strings"

	"commissary/api"
	"commissary/value"
)

// lit, op, agg and col are written out, so that the program's own are held against them.
func lit(v api.Value) api.Expr          { return api.Expr{Kind: api.ExprLit, V: v} }
func op(n int, l ...api.Expr) api.Expr  { return api.Expr{Kind: api.ExprOp, N: n, L: l} }
func agg(n int, l ...api.Expr) api.Expr { return api.Expr{Kind: api.ExprAgg, N: n, L: l} }
func col(name string) api.Expr          { return api.Expr{Kind: api.ExprCol, Col: name} }
func of(tab, name string) api.Expr      { return api.Expr{Kind: api.ExprCol, Tab: tab, Col: name} }

var (
	one  = lit(value.Int(1))
	yes  = lit(value.Bool(true))
	a    = col("a")
	b    = col("b")
	c    = col("c")
	rows = agg(api.AggRows)
)

func star() api.Item             { return api.Item{Star: true} }
func item(e api.Expr) api.Item   { return api.Item{E: e} }
func from(t string) []api.Source { return []api.Source{{Table: t, As: t}} }

func joined(kind int, table, as string, on api.Expr) api.Source {
	return api.Source{Table: table, As: as, Join: kind, On: on}
}

// query is a query of parts, without keys and limit.
func query(parts ...api.Select) api.Query { return api.Query{Parts: parts, Limit: -1} }

// plain is a query of one item of the table t.
func plain(e api.Expr) api.Query {
	return query(api.Select{Items: []api.Item{item(e)}, From: from("t")})
}

// full is a query that has something of all that one may have.
func full() api.Query {
	return api.Query{
		Parts: []api.Select{
			{
				Distinct: true,
				Items:    []api.Item{star(), item(a), {E: op(api.OpAdd, of("t", "a"), one), As: "n"}, item(agg(api.AggSum, b))},
				From: []api.Source{
					{Table: "t", As: "t"}, joined(api.JoinInner, "u", "v", op(api.OpEq, a, b)), joined(api.JoinLeft, "u", "u", yes),
					joined(api.JoinSemi, "w", "w", yes), joined(api.JoinAnti, "x", "y", op(api.OpNull, c)),
				},
				Where: op(api.OpLt, a, one),
				Group: []api.Expr{a, of("t", "b")},
			},
			{Items: []api.Item{star()}, From: from("t")},
		},
		Order: []api.Key{{Name: "a", Down: true}, {Name: "n"}},
		Limit: 5,
	}
}

const fullText = "SELECT DISTINCT *, a, t.a + 1 AS n, SUM(b) FROM t JOIN u AS v ON a = b LEFT JOIN u ON TRUE SEMI JOIN w ON TRUE " +
	"ANTI JOIN x AS y ON c IS NULL WHERE a < 1 GROUP BY a, t.b UNION ALL SELECT * FROM t ORDER BY a DESC, n LIMIT 5"

// many is a text so many times, with another between.
func many(text, between string, times int) string {
	return strings.TrimSuffix(strings.Repeat(text+between, times), between)
}

// sized is an expression of so many expressions, as flat as may be.
func sized(n int) api.Expr {
	switch n {
	case 1:
		return one
	case 2:
		return op(api.OpNot, a)
	}
	return op(api.OpAnd, sized((n-1)/2), sized(n-1-(n-1)/2))
}

// deep is an expression of so many levels.
func deep(levels int) api.Expr {
	e := a
	for range levels - 1 {
		e = op(api.OpNeg, e)
	}
	return e
}
