package parse_test

import (
	"math"
	"reflect"
	"slices"
	"strings"
	"testing"

	"commissary/api"
	"commissary/expr"
	"commissary/parse"
	"commissary/value"
)

// sameExpr tells whether two expressions are the same, lists that are nil and empty alike.
func sameExpr(x, y api.Expr) bool {
	return x.Kind == y.Kind && x.N == y.N && x.V == y.V && x.Tab == y.Tab && x.Col == y.Col && slices.EqualFunc(x.L, y.L, sameExpr)
}

// sameQuery is told by the texts of what lists hold, so that it needs nothing of parse.
func sameQuery(x, y api.Query) bool {
	return slices.Equal(x.Order, y.Order) && x.Limit == y.Limit && slices.EqualFunc(x.Parts, y.Parts, func(s, t api.Select) bool {
		return s.Distinct == t.Distinct && sameExpr(s.Where, t.Where) && slices.EqualFunc(s.Group, t.Group, sameExpr) &&
			slices.EqualFunc(s.Items, t.Items, func(i, k api.Item) bool { return i.Star == k.Star && i.As == k.As && sameExpr(i.E, k.E) }) &&
			slices.EqualFunc(s.From, t.From, func(v, w api.Source) bool {
				return v.Table == w.Table && v.As == w.As && v.Join == w.Join && sameExpr(v.On, w.On)
			})
	})
}

// change is what is done to the query full().
type change struct {
	why string
	do  func(q *api.Query)
}

// good is changes by which it may still be.
func good() []change {
	long := strings.Repeat("x", api.MaxName)
	return []change{
		{"nothing", func(q *api.Query) {}},
		{"one part", func(q *api.Query) { q.Parts = q.Parts[:1] }},
		{"most parts", func(q *api.Query) { q.Parts = slices.Repeat(q.Parts, api.MaxParts/2) }},
		{"no keys", func(q *api.Query) { q.Order = nil }},
		{"empty keys", func(q *api.Query) { q.Order = []api.Key{} }},
		{"most keys", func(q *api.Query) { q.Order = slices.Repeat(q.Order, api.MaxKeys/2) }},
		{"a long key", func(q *api.Query) { q.Order[1].Name = long }},
		{"no limit", func(q *api.Query) { q.Limit = -1 }},
		{"limit 0", func(q *api.Query) { q.Limit = 0 }},
		{"the greatest limit", func(q *api.Query) { q.Limit = api.MaxInt }},
		{"one item", func(q *api.Query) { q.Parts[0].Items = q.Parts[0].Items[3:] }},
		{"most items", func(q *api.Query) { q.Parts[0].Items = slices.Repeat(q.Parts[0].Items, api.MaxItems/4) }},
		{"items of the second part", func(q *api.Query) { q.Parts[1].Items = q.Parts[0].Items }},
		{"a star with an empty list", func(q *api.Query) { q.Parts[0].Items[0].E.L = []api.Expr{} }},
		{"an item's long name", func(q *api.Query) { q.Parts[0].Items[1].As = long }},
		{"one source", func(q *api.Query) { q.Parts[0].From = q.Parts[0].From[:1] }},
		{"most sources", func(q *api.Query) {
			q.Parts[0].From = append(q.Parts[0].From, joined(api.JoinInner, "t", "t", a))
		}},
		{"long names of a source", func(q *api.Query) { q.Parts[0].From[2].Table, q.Parts[0].From[2].As = long, long+"" }},
		{"names that are one", func(q *api.Query) { q.Parts[0].From[1].As = "t" }},
		{"no Where", func(q *api.Query) { q.Parts[0].Where = api.Expr{} }},
		{"a Where of an empty list", func(q *api.Query) { q.Parts[0].Where = api.Expr{L: []api.Expr{}} }},
		{"an On of an empty list", func(q *api.Query) { q.Parts[1].From[0].On.L = []api.Expr{} }},
		{"no groups", func(q *api.Query) { q.Parts[0].Group = nil }},
		{"most groups", func(q *api.Query) { q.Parts[0].Group = slices.Repeat(q.Parts[0].Group, api.MaxGroups/2) }},
		{"a group of an empty list", func(q *api.Query) { q.Parts[0].Group[0].L = []api.Expr{} }},
		{"groups beside a star", func(q *api.Query) { q.Parts[1].Group = []api.Expr{a} }},
		{"a large item", func(q *api.Query) { q.Parts[0].Items[1].E = sized(api.MaxNodes) }},
		{"a large On", func(q *api.Query) { q.Parts[0].From[1].On = sized(api.MaxNodes) }},
		{"a deep Where", func(q *api.Query) { q.Parts[0].Where = deep(api.MaxDepth) }},
	}
}

// bad is changes by which it may not be.
func bad() []change {
	l := []change{
		{"no parts", func(q *api.Query) { q.Parts = nil }},
		{"empty parts", func(q *api.Query) { q.Parts = []api.Select{} }},
		{"parts, and one more", func(q *api.Query) { q.Parts = slices.Repeat(q.Parts[:1], api.MaxParts+1) }},
		{"very many parts", func(q *api.Query) { q.Parts = slices.Repeat(q.Parts, 1<<16) }},
		{"a part of nothing", func(q *api.Query) { q.Parts = append(q.Parts, api.Select{}) }},
		{"a first part of nothing", func(q *api.Query) { q.Parts[0] = api.Select{} }},
		{"keys, and one more", func(q *api.Query) { q.Order = slices.Repeat(q.Order[:1], api.MaxKeys+1) }},
		{"limit -2", func(q *api.Query) { q.Limit = -2 }},
		{"the least limit", func(q *api.Query) { q.Limit = math.MinInt }},
		{"a limit too great", func(q *api.Query) { q.Limit = api.MaxInt + 1 }},
		{"the greatest int as limit", func(q *api.Query) { q.Limit = math.MaxInt }},
		{"two things", func(q *api.Query) { q.Limit, q.Parts = -2, nil }},
	}
	for part := range 2 {
		for _, x := range badParts() {
			l = append(l, change{x.why, func(q *api.Query) {
				q.Parts[part] = full().Parts[0]
				x.do(&q.Parts[part])
			}})
		}
	}
	for _, name := range badNames() {
		l = append(l, change{"a key " + name, func(q *api.Query) { q.Order[1].Name = name }}, change{"a key that goes down " + name, func(q *api.Query) { q.Order[0].Name = name }})
	}
	return l
}

// badNames is what is no name.
func badNames() []string {
	return []string{"", "SELECT", "NULL", "ALL", strings.Repeat("x", api.MaxName+1), "1", "1a", "a b", " a", "a ", "a.b", "é", "'a'", "*", "a--", "a\x00"}
}

// partChange is what is done to a part.
type partChange struct {
	why string
	do  func(s *api.Select)
}

func badParts() []partChange {
	l := []partChange{
		{"no items", func(s *api.Select) { s.Items = nil }},
		{"empty items", func(s *api.Select) { s.Items = []api.Item{} }},
		{"items, and one more", func(s *api.Select) { s.Items = slices.Repeat(s.Items[:1], api.MaxItems+1) }},
		{"an item of nothing", func(s *api.Select) { s.Items[2] = api.Item{} }},
		{"a name of nothing", func(s *api.Select) { s.Items[2] = api.Item{As: "n"} }},
		{"a star's expression", func(s *api.Select) { s.Items[0].E = a }},
		{"a star's name", func(s *api.Select) { s.Items[0].As = "n" }},
		{"a star's reserved name", func(s *api.Select) { s.Items[0].As = "SELECT" }},
		{"no sources", func(s *api.Select) { s.From = nil }},
		{"empty sources", func(s *api.Select) { s.From = []api.Source{} }},
		{"sources, and one more", func(s *api.Select) { s.From = append(s.From, s.From[1], s.From[1]) }},
		{"a source of nothing", func(s *api.Select) { s.From[1] = api.Source{} }},
		{"a first source of nothing", func(s *api.Select) { s.From[0] = api.Source{} }},
		{"a second JoinFirst", func(s *api.Select) { s.From[1].Join = api.JoinFirst }},
		{"a second source without On", func(s *api.Select) { s.From[1].On = api.Expr{} }},
		{"a second first source", func(s *api.Select) { s.From[1] = api.Source{Table: "u", As: "u"} }},
		{"a last first source", func(s *api.Select) { s.From[4] = api.Source{Table: "u", As: "u"} }},
		{"a first source's On", func(s *api.Select) { s.From[0].On = yes }},
		{"a first source's On, joined", func(s *api.Select) { s.From[0].On, s.From[0].Join = yes, api.JoinInner }},
		{"groups, and one more", func(s *api.Select) { s.Group = slices.Repeat(s.Group[:1], api.MaxGroups+1) }},
		{"a group of nothing", func(s *api.Select) { s.Group[1] = api.Expr{} }},
		{"a literal as group", func(s *api.Select) { s.Group[1] = one }},
		{"a sum as group", func(s *api.Select) { s.Group[0] = op(api.OpAdd, a, one) }},
		{"an aggregate as group", func(s *api.Select) { s.Group[0] = rows }},
	}
	for _, kind := range []int{api.JoinInner, api.JoinLeft, api.JoinSemi, api.JoinAnti, api.JoinAnti + 1, -1, math.MinInt, math.MaxInt} {
		l = append(l, partChange{"a first source that is joined", func(s *api.Select) { s.From[0].Join = kind }})
	}
	for _, kind := range []int{api.JoinAnti + 1, -1, 256 + api.JoinInner, math.MinInt, math.MaxInt} {
		l = append(l, partChange{"no kind of join", func(s *api.Select) { s.From[2].Join = kind }})
	}
	for _, name := range badNames() {
		l = append(l, partChange{"a table " + name, func(s *api.Select) { s.From[0].Table = name }}, partChange{"a joined table " + name, func(s *api.Select) { s.From[3].Table = name }},
			partChange{"a source's name " + name, func(s *api.Select) { s.From[0].As = name }}, partChange{"a joined source's name " + name, func(s *api.Select) { s.From[4].As = name }})
		if name != "" {
			l = append(l, partChange{"an item's name " + name, func(s *api.Select) { s.Items[1].As = name }}, partChange{"a named item's name " + name, func(s *api.Select) { s.Items[2].As = name }})
		}
	}
	for _, e := range badExprs() {
		l = append(l, partChange{"an item", func(s *api.Select) { s.Items[3].E = e }}, partChange{"an On", func(s *api.Select) { s.From[1].On = e }}, partChange{"the last On", func(s *api.Select) { s.From[4].On = e }},
			partChange{"a Where", func(s *api.Select) { s.Where = e }}, partChange{"a group", func(s *api.Select) { s.Group[1] = e }})
	}
	for _, e := range []api.Expr{rows, agg(api.AggSum, a), op(api.OpEq, a, agg(api.AggCount, b)), op(api.OpNot, op(api.OpAnd, a, op(api.OpNull, rows)))} {
		l = append(l, partChange{"an On's aggregate", func(s *api.Select) { s.From[1].On = e }}, partChange{"the last On's aggregate", func(s *api.Select) { s.From[4].On = e }}, partChange{"a Where's aggregate", func(s *api.Select) { s.Where = e }})
	}
	return l
}

// badExprs is expressions that may not be in a query.
func badExprs() []api.Expr {
	placed := func(n int) api.Expr { return api.Expr{Kind: api.ExprCol, Col: "a", N: n} }
	return []api.Expr{
		placed(1), placed(api.MaxCols - 1), placed(api.MaxCols), placed(-1), op(api.OpAdd, a, op(api.OpNeg, placed(3))), agg(api.AggSum, placed(1)),
		{Kind: -1}, {Kind: 5}, lit(value.Int(-1)), lit(api.Value{Kind: 9}), lit(value.Text(strings.Repeat("x", api.MaxText+1))), col(""), col("SUM"), of("1", "a"), {Kind: api.ExprCol, Col: "a", V: value.Int(1)},
		op(api.OpNot), op(api.OpAdd, a), op(0, a), op(18, a), op(api.OpAnd, a, api.Expr{}), agg(api.AggSum), agg(api.AggRows, a), agg(6, a), agg(api.AggSum, agg(api.AggMin, a)),
		sized(api.MaxNodes + 1), deep(api.MaxDepth + 1), deep(1 << 14), op(api.OpNot, deep(api.MaxDepth)),
	}
}

// P11.2: what may be, and all that may not.
func TestCheck(t *testing.T) {
	for _, x := range good() {
		q := full()
		x.do(&q)
		if e := parse.Check(q); e != api.OK {
			t.Errorf("%s: %d", x.why, e)
		}
	}
	for _, x := range bad() {
		q := full()
		x.do(&q)
		if e := parse.Check(q); e != api.ErrParse {
			t.Errorf("%s: %d", x.why, e)
		}
	}
	for _, q := range []api.Query{{}, {Limit: -1}, {Parts: []api.Select{{}}}, {Order: []api.Key{{Name: "a"}}}, {Limit: 5}} {
		if e := parse.Check(q); e != api.ErrParse {
			t.Errorf("%+v: %d", q, e)
		}
	}
	if e := parse.Check(plain(a)); e != api.OK {
		t.Error(e)
	}
}

// changes is one change for each part that a query has.
func changes() []func(q *api.Query) {
	return []func(q *api.Query){
		func(q *api.Query) { q.Parts = q.Parts[:1] },
		func(q *api.Query) { q.Parts = nil },
		func(q *api.Query) { q.Parts = append(q.Parts, q.Parts[0]) },
		func(q *api.Query) { q.Parts[0], q.Parts[1] = q.Parts[1], q.Parts[0] },
		func(q *api.Query) { q.Order = nil },
		func(q *api.Query) { q.Order = q.Order[:1] },
		func(q *api.Query) { q.Order[0].Name = "b" },
		func(q *api.Query) { q.Order[0].Down = false },
		func(q *api.Query) { q.Order[1].Down = true },
		func(q *api.Query) { q.Order[0], q.Order[1] = q.Order[1], q.Order[0] },
		func(q *api.Query) { q.Limit = 6 },
		func(q *api.Query) { q.Limit = -1 },
		func(q *api.Query) { q.Parts[0].Distinct = false },
		func(q *api.Query) { q.Parts[1].Distinct = true },
		func(q *api.Query) { q.Parts[0].Items = nil },
		func(q *api.Query) { q.Parts[0].Items = q.Parts[0].Items[:3] },
		func(q *api.Query) { q.Parts[0].Items = q.Parts[0].Items[1:] },
		func(q *api.Query) { q.Parts[0].Items[0].Star = false },
		func(q *api.Query) { q.Parts[0].Items[1].Star = true },
		func(q *api.Query) { q.Parts[0].Items[2].As = "" },
		func(q *api.Query) { q.Parts[0].Items[1].As = "a" },
		func(q *api.Query) { q.Parts[0].Items[1].E.Col = "b" },
		func(q *api.Query) { q.Parts[0].Items[1].E.N = 1 },
		func(q *api.Query) { q.Parts[0].Items[2].E.L[0].Tab = "" },
		func(q *api.Query) { q.Parts[0].Items[2].E.L[1].V.N = 2 },
		func(q *api.Query) { q.Parts[1].Items[0] = item(a) },
		func(q *api.Query) { q.Parts[0].From = nil },
		func(q *api.Query) { q.Parts[0].From = q.Parts[0].From[:4] },
		func(q *api.Query) { q.Parts[0].From[0].Table = "T" },
		func(q *api.Query) { q.Parts[0].From[0].As = "T" },
		func(q *api.Query) { q.Parts[0].From[1].Table = "v" },
		func(q *api.Query) { q.Parts[0].From[1].As = "u" },
		func(q *api.Query) { q.Parts[0].From[1].Join = api.JoinLeft },
		func(q *api.Query) { q.Parts[0].From[1].On = op(api.OpEq, b, a) },
		func(q *api.Query) { q.Parts[0].From[4].On.N = api.OpThere },
		func(q *api.Query) { q.Parts[0].From[2], q.Parts[0].From[3] = q.Parts[0].From[3], q.Parts[0].From[2] },
		func(q *api.Query) { q.Parts[1].From[0].As = "u" },
		func(q *api.Query) { q.Parts[0].Where = api.Expr{} },
		func(q *api.Query) { q.Parts[0].Where.N = api.OpLe },
		func(q *api.Query) { q.Parts[0].Where.L[1].V = value.Null() },
		func(q *api.Query) { q.Parts[1].Where = yes },
		func(q *api.Query) { q.Parts[0].Group = nil },
		func(q *api.Query) { q.Parts[0].Group = q.Parts[0].Group[1:] },
		func(q *api.Query) { q.Parts[0].Group[0].Tab = "t" },
		func(q *api.Query) { q.Parts[0].Group[1].N = 1 },
		func(q *api.Query) {
			q.Parts[0].Group[0], q.Parts[0].Group[1] = q.Parts[0].Group[1], q.Parts[0].Group[0]
		},
		func(q *api.Query) { q.Parts[1].Group = []api.Expr{a} },
	}
}

// P11.2: queries are the same, if no part differs, whether they may be or not.
func TestSame(t *testing.T) {
	l := []api.Query{full()}
	for _, do := range changes() {
		q := full()
		do(&q)
		l = append(l, q)
	}
	for i, x := range l {
		for k, y := range l {
			if got := parse.Same(x, y); got != (i == k) {
				t.Errorf("Same of changes %d, %d: %t", i, k, got)
			}
		}
	}
	if !parse.Same(full(), full()) || !parse.Same(api.Query{}, api.Query{}) || parse.Same(api.Query{}, full()) || parse.Same(full(), api.Query{}) {
		t.Error("the same")
	}
}

// P11.2: lists that are nil and empty are alike.
func TestSameLists(t *testing.T) {
	x := api.Query{Parts: []api.Select{{}, {Items: []api.Item{star()}, From: []api.Source{{Table: "t"}}}}}
	empty := []api.Expr{}
	y := api.Query{
		Order: []api.Key{},
		Parts: []api.Select{
			{Items: []api.Item{}, From: []api.Source{}, Where: api.Expr{L: empty}, Group: empty},
			{Items: []api.Item{{Star: true, E: api.Expr{L: empty}}}, From: []api.Source{{Table: "t", On: api.Expr{L: empty}}}, Group: empty},
		},
	}
	if !parse.Same(x, y) || !parse.Same(y, x) || !parse.Same(api.Query{Parts: []api.Select{}}, api.Query{}) {
		t.Error("nil and empty lists")
	}
	z, w := plain(op(api.OpNot, a)), plain(op(api.OpNot, api.Expr{Kind: api.ExprCol, Col: "a", L: empty}))
	if !parse.Same(z, w) {
		t.Error("nil and empty lists of parts")
	}
	z.Parts[0].Group = []api.Expr{{}}
	if parse.Same(z, w) || parse.Same(w, z) {
		t.Error("a list with something zero is empty")
	}
}

// R3: what is handed in stays as it is.
func TestUnchanged(t *testing.T) {
	l := append(good(), bad()...)
	for _, x := range l {
		q, again := full(), full()
		x.do(&q)
		x.do(&again)
		parse.Check(q)
		parse.Same(q, full())
		if !reflect.DeepEqual(q, again) {
			t.Errorf("%s: changed", x.why)
		}
	}
	parts := make([]api.Select, 1, 4)
	parts[0] = plain(a).Parts[0]
	parse.Check(api.Query{Parts: parts, Limit: -1})
	if !reflect.DeepEqual(parts[:4], []api.Select{plain(a).Parts[0], {}, {}, {}}) {
		t.Error("the room behind a list is changed")
	}
}

// P11.1, P11.2: expr.Check and Check tell the same of an expression as Expr and Parse do.
func TestCheckParsed(t *testing.T) {
	for _, n := range []int{1, api.MaxNodes, api.MaxNodes + 1} {
		e := sized(n)
		q := plain(e)
		wantCheck := api.OK
		if expr.Check(e) != api.OK {
			wantCheck = api.ErrParse
		}
		if got := parse.Check(q); got != wantCheck {
			t.Errorf("%d expressions: %d", n, got)
		}
	}
}
