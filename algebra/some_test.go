package algebra_test

import (
	"math"
	"slices"
	"strconv"
	"strings"

	"commissary/api"
	"commissary/value"
)

// Expressions and nodes are written out, so that the program's own are held against them.
func lit(v api.Value) api.Expr          { return api.Expr{Kind: api.ExprLit, V: v} }
func op(n int, l ...api.Expr) api.Expr  { return api.Expr{Kind: api.ExprOp, N: n, L: l} }
func agg(n int, l ...api.Expr) api.Expr { return api.Expr{Kind: api.ExprAgg, N: n, L: l} }

// place is a column of which nothing counts but its place.
func place(n int) api.Expr { return api.Expr{Kind: api.ExprCol, Tab: "q", Col: "x", N: n} }

const null, yes, num, word = api.KindNull, api.KindBool, api.KindInt, api.KindText

var (
	none  = lit(value.Null())
	truth = lit(value.Bool(true))
	one   = lit(value.Int(1))
	text  = lit(value.Text("it's a"))
	rows  = agg(api.AggRows)
)

// ofKind is a literal of a type.
func ofKind(kind int) api.Expr { return []api.Expr{none, truth, one, text}[kind] }

// cols is columns of types, called c0, c1 and so on, of tab.
func cols(tab string, types ...int) []api.Column {
	var l []api.Column
	for i, kind := range types {
		l = append(l, api.Column{Tab: tab, Name: "c" + strconv.Itoa(i), Type: kind})
	}
	return l
}

func scan(table string, types ...int) api.Node {
	return api.Node{Op: api.NodeScan, Table: table, Cols: cols(table, types...)}
}

func filter(e api.Expr, x ...api.Node) api.Node {
	return api.Node{Op: api.NodeFilter, E: e, L: x}
}

func project(as []api.Column, es []api.Expr, x ...api.Node) api.Node {
	return api.Node{Op: api.NodeProject, Cols: as, Es: es, L: x}
}

func join(kind int, e api.Expr, x ...api.Node) api.Node {
	return api.Node{Op: api.NodeJoin, Join: kind, E: e, L: x}
}

func group(by []int, as []api.Column, es []api.Expr, x ...api.Node) api.Node {
	return api.Node{Op: api.NodeGroup, By: by, Cols: as, Es: es, L: x}
}

func distinct(x ...api.Node) api.Node { return api.Node{Op: api.NodeDistinct, L: x} }
func union(x ...api.Node) api.Node    { return api.Node{Op: api.NodeUnion, L: x} }

func order(by []int, down []bool, x ...api.Node) api.Node {
	return api.Node{Op: api.NodeSort, By: by, Down: down, L: x}
}

func limit(n int, x ...api.Node) api.Node { return api.Node{Op: api.NodeLimit, N: n, L: x} }

// nulls is a node that tells n columns of null.
func nulls(n int) api.Node {
	return project(cols("", make([]int, n)...), slices.Repeat([]api.Expr{none}, n), scan("n", num))
}

// wide is n types that are alike.
func wide(kind, n int) []int { return slices.Repeat([]int{kind}, n) }

// places is 0 to n - 1.
func places(n int) []int {
	var l []int
	for i := range n {
		l = append(l, i)
	}
	return l
}

// chain is a tree of so many nodes, one below the other.
func chain(nodes int) api.Node {
	n := t3()
	for range nodes - 1 {
		n = distinct(n)
	}
	return n
}

// bush is a tree of so many nodes, as flat as may be.
func bush(nodes int) api.Node {
	if nodes <= 2 {
		return chain(nodes)
	}
	return union(bush((nodes-1)/2), bush(nodes-1-(nodes-1)/2))
}

// row is a union of so many nodes.
func row(nodes int) api.Node { return union(slices.Repeat([]api.Node{t3()}, nodes-1)...) }

// endless is n whose parts are all it itself.
func endless(n api.Node, parts int) api.Node {
	l := make([]api.Node, parts)
	n.L = l
	for i := range l {
		l[i] = n
	}
	return n
}

// shared is a tree whose two parts are one list's, down to so many levels.
func shared(levels int) api.Node {
	n := t3()
	for range levels - 1 {
		n = union(n, n)
	}
	return n
}

// deep is an expression of so many levels.
func deep(levels int) api.Expr {
	e := truth
	for range levels - 1 {
		e = op(api.OpNot, e)
	}
	return e
}

// t3 tells a bool, an int, a text; u2 an int, a text.
func t3() api.Node { return scan("t", yes, num, word) }
func u2() api.Node { return scan("u", num, word) }

// told is a tree that may be, its columns, text, size and tables.
type told struct {
	n      api.Node
	cols   []api.Column
	text   string
	size   int
	tables string
}

// good is trees that may be.
func good() []told {
	return slices.Concat(goodScans(), goodFilters(), goodJoins(), goodProjects(), goodGroups(), goodUnions(), goodOthers())
}

func goodScans() []told {
	long := strings.Repeat("x", api.MaxName)
	odd := []api.Column{{Name: "SELECT", Type: num}, {Tab: "*", Type: word}, {Type: num}, {Type: num}}
	return []told{
		{scan("t", num), cols("t", num), "SCAN t", 1, "t"},
		{t3(), cols("t", yes, num, word), "SCAN t", 1, "t"},
		{scan(long, yes), cols(long, yes), "SCAN " + long, 1, long},
		{api.Node{Op: api.NodeScan, Table: "count", Cols: odd}, odd, "SCAN count", 1, "count"},
		{scan("t", wide(yes, api.MaxCols)...), cols("t", wide(yes, api.MaxCols)...), "SCAN t", 1, "t"},
		{api.Node{Op: api.NodeScan, Table: "t", Cols: cols("u", num), L: []api.Node{}, Es: []api.Expr{}, By: []int{}, Down: []bool{}, E: api.Expr{L: []api.Expr{}}}, cols("u", num), "SCAN t", 1, "t"},
	}
}

func goodFilters() []told {
	tell := func(e api.Expr, text string) told {
		return told{filter(e, t3()), cols("t", yes, num, word), "FILTER(" + text + ", SCAN t)", 2, "t"}
	}
	return []told{
		tell(op(api.OpLt, place(1), lit(value.Int(5))), "(#1 < 5)"),
		tell(place(0), "#0"),
		tell(none, "NULL"),
		tell(truth, "TRUE"),
		tell(op(api.OpAnd, place(0), none), "(#0 AND NULL)"),
		tell(op(api.OpOr, op(api.OpNot, place(0)), op(api.OpNull, place(2))), "((NOT #0) OR (#2 IS NULL))"),
		tell(op(api.OpThere, op(api.OpNeg, place(1))), "((- #1) IS NOT NULL)"),
		tell(op(api.OpEq, place(2), text), "(#2 = 'it''s a')"),
		tell(op(api.OpNe, lit(value.Text("a b")), place(2)), "('a b' <> #2)"),
		tell(op(api.OpGe, op(api.OpMul, op(api.OpAdd, place(1), place(1)), op(api.OpSub, one, place(1))), op(api.OpDiv, place(1), op(api.OpMod, place(1), none))),
			"(((#1 + #1) * (1 - #1)) >= (#1 / (#1 % NULL)))"),
		tell(op(api.OpLe, one, op(api.OpNeg, one)), "(1 <= (- 1))"),
		tell(op(api.OpGt, lit(value.Bool(false)), place(0)), "(FALSE > #0)"),
		tell(deep(api.MaxDepth), strings.Repeat("(NOT ", api.MaxDepth-1)+"TRUE"+strings.Repeat(")", api.MaxDepth-1)),
		{filter(place(0), nulls(1)), cols("", null), "FILTER(#0, PROJECT(NULL; SCAN n))", 3, "n"},
		{filter(place(31), scan("t", wide(yes, api.MaxCols)...)), cols("t", wide(yes, api.MaxCols)...), "FILTER(#31, SCAN t)", 2, "t"},
	}
}

func goodJoins() []told {
	both, left := slices.Concat(cols("t", yes, num, word), cols("u", num, word)), cols("t", yes, num, word)
	on, wider := op(api.OpEq, place(1), place(3)), scan("w", wide(yes, api.MaxCols)...)
	l31, l1 := scan("l", wide(yes, api.MaxCols-1)...), scan("r", num)
	return []told{
		{join(api.JoinInner, on, t3(), u2()), both, "JOIN((#1 = #3); SCAN t, SCAN u)", 3, "t u"},
		{join(api.JoinLeft, on, t3(), u2()), both, "LEFT((#1 = #3); SCAN t, SCAN u)", 3, "t u"},
		{join(api.JoinSemi, on, t3(), u2()), left, "SEMI((#1 = #3); SCAN t, SCAN u)", 3, "t u"},
		{join(api.JoinAnti, on, t3(), u2()), left, "ANTI((#1 = #3); SCAN t, SCAN u)", 3, "t u"},
		{join(api.JoinInner, none, u2(), u2()), slices.Concat(cols("u", num, word), cols("u", num, word)), "JOIN(NULL; SCAN u, SCAN u)", 3, "u u"},
		{join(api.JoinSemi, op(api.OpEq, place(2), place(4)), t3(), u2()), left, "SEMI((#2 = #4); SCAN t, SCAN u)", 3, "t u"},
		{join(api.JoinInner, place(30), l31, l1), slices.Concat(l31.Cols, l1.Cols), "JOIN(#30; SCAN l, SCAN r)", 3, "l r"},
		{join(api.JoinLeft, op(api.OpEq, place(31), one), l31, l1), slices.Concat(l31.Cols, l1.Cols), "LEFT((#31 = 1); SCAN l, SCAN r)", 3, "l r"},
		{join(api.JoinSemi, place(31), wider, wider), wider.Cols, "SEMI(#31; SCAN w, SCAN w)", 3, "w w"},
		{join(api.JoinAnti, place(31), l31, wider), l31.Cols, "ANTI(#31; SCAN l, SCAN w)", 3, "l w"},
		{join(api.JoinInner, place(0), join(api.JoinSemi, on, t3(), u2()), join(api.JoinAnti, truth, u2(), t3())),
			both, "JOIN(#0; SEMI((#1 = #3); SCAN t, SCAN u), ANTI(TRUE; SCAN u, SCAN t))", 7, "t u u t"},
	}
}

func goodProjects() []told {
	as := []api.Column{{Name: "n", Type: num}, {Tab: "v", Name: "n", Type: yes}, {Type: word}, {Name: "a b", Type: null}}
	es := []api.Expr{op(api.OpAdd, place(1), one), op(api.OpNull, none), place(2), none}
	return []told{
		{project(as, es, t3()), as, "PROJECT((#1 + 1), (NULL IS NULL), #2, NULL; SCAN t)", 2, "t"},
		{project(as[:1], []api.Expr{op(api.OpNeg, none)}, t3()), as[:1], "PROJECT((- NULL); SCAN t)", 2, "t"},
		{project(as[3:], []api.Expr{place(1)}, nulls(2)), as[3:], "PROJECT(#1; PROJECT(NULL, NULL; SCAN n))", 3, "n"},
		{project(cols("", wide(num, api.MaxCols)...), slices.Repeat([]api.Expr{one}, api.MaxCols), u2()), cols("", wide(num, api.MaxCols)...),
			"PROJECT(1" + strings.Repeat(", 1", api.MaxCols-1) + "; SCAN u)", 2, "u"},
	}
}

func goodGroups() []told {
	as := []api.Column{{Name: "agg", Type: num}, {Name: "agg", Type: num}, {Name: "agg", Type: num}, {Tab: "v", Name: "m", Type: word}, {Type: yes}}
	es := []api.Expr{rows, agg(api.AggCount, place(0)), agg(api.AggSum, op(api.OpNeg, place(1))), agg(api.AggMin, place(2)), agg(api.AggMax, truth)}
	t, all := cols("t", yes, num, word), scan("w", wide(num, api.MaxCols)...)
	return []told{
		{group([]int{0, 2}, as, es, t3()), slices.Concat(t[:1], t[2:], as), "GROUP(0, 2; COUNT(*), COUNT(#0), SUM((- #1)), MIN(#2), MAX(TRUE); SCAN t)", 2, "t"},
		{group(nil, as[:1], es[:1], t3()), as[:1], "GROUP(; COUNT(*); SCAN t)", 2, "t"},
		{group([]int{1}, nil, nil, t3()), t[1:2], "GROUP(1; ; SCAN t)", 2, "t"},
		{group([]int{0, 1, 2}, []api.Column{}, []api.Expr{}, t3()), t, "GROUP(0, 1, 2; ; SCAN t)", 2, "t"},
		{group([]int{}, []api.Column{{Type: null}}, []api.Expr{agg(api.AggMax, place(0))}, nulls(1)), []api.Column{{Type: null}}, "GROUP(; MAX(#0); PROJECT(NULL; SCAN n))", 3, "n"},
		{group(places(api.MaxCols), nil, nil, all), all.Cols, "GROUP(" + numbers(api.MaxCols) + "; ; SCAN w)", 2, "w"},
		{group([]int{31}, cols("", wide(num, 31)...), slices.Repeat([]api.Expr{agg(api.AggSum, place(31))}, 31), all), slices.Concat(all.Cols[31:], cols("", wide(num, 31)...)),
			"GROUP(31; " + strings.Repeat("SUM(#31), ", 30) + "SUM(#31); SCAN w)", 2, "w"},
	}
}

// numbers is the digits of 0 to n - 1.
func numbers(n int) string {
	text := "0"
	for i := range n - 1 {
		text += ", " + strconv.Itoa(i+1)
	}
	return text
}

func goodUnions() []told {
	null3 := project(cols("", null, num, null), []api.Expr{none, one, none}, u2())
	return []told{
		{union(t3()), cols("t", yes, num, word), "UNION(SCAN t)", 2, "t"},
		{union(t3(), scan("v", yes, num, word), t3()), cols("t", yes, num, word), "UNION(SCAN t, SCAN v, SCAN t)", 4, "t v t"},
		{union(t3(), null3), cols("t", yes, num, word), "UNION(SCAN t, PROJECT(NULL, 1, NULL; SCAN u))", 4, "t u"},
		{union(nulls(1), nulls(1)), cols("", null), "UNION(PROJECT(NULL; SCAN n), PROJECT(NULL; SCAN n))", 5, "n n"},
		{union(u2(), union(scan("x", num, word), nulls(2)), nulls(2)), cols("u", num, word), "UNION(SCAN u, UNION(SCAN x, PROJECT(NULL, NULL; SCAN n)), PROJECT(NULL, NULL; SCAN n))", 8, "u x n n"},
	}
}

func goodOthers() []told {
	t := cols("t", yes, num, word)
	many := strings.Repeat("t ", api.MaxTree)
	return []told{
		{distinct(t3()), t, "DISTINCT(SCAN t)", 2, "t"},
		{order([]int{2, 0, 1}, []bool{true, false, true}, t3()), t, "SORT(2-, 0, 1-; SCAN t)", 2, "t"},
		{order([]int{1}, []bool{false}, t3()), t, "SORT(1; SCAN t)", 2, "t"},
		{order([]int{1, 1, 0}, []bool{true, false, false}, t3()), t, "SORT(1-, 1, 0; SCAN t)", 2, "t"},
		{order(nil, nil, t3()), t, "SORT(; SCAN t)", 2, "t"},
		{order([]int{}, []bool{}, t3()), t, "SORT(; SCAN t)", 2, "t"},
		{limit(0, t3()), t, "LIMIT(0; SCAN t)", 2, "t"},
		{limit(math.MaxInt, t3()), t, "LIMIT(9223372036854775807; SCAN t)", 2, "t"},
		{limit(10, order([]int{0}, []bool{true}, distinct(filter(truth, t3())))), t, "LIMIT(10; SORT(0-; DISTINCT(FILTER(TRUE, SCAN t))))", 5, "t"},
		{chain(api.MaxTree), t, strings.Repeat("DISTINCT(", api.MaxTree-1) + "SCAN t" + strings.Repeat(")", api.MaxTree-1), api.MaxTree, "t"},
		{row(api.MaxTree), t, "UNION(SCAN t" + strings.Repeat(", SCAN t", api.MaxTree-2) + ")", api.MaxTree, many[:2*api.MaxTree-3]},
	}
}

// odd is a tree that may not be, and why.
type odd struct {
	why string
	n   api.Node
}

// bad is trees that may not be.
func bad() []odd {
	l := slices.Concat(badParts(), badFields(), badScans(), badExprs(), badProjects(), badGroups(), badUnions(), badOthers(), badSizes())
	for _, x := range l {
		l = append(l, odd{x.why + ", below a distinct", distinct(x.n)}, odd{x.why + ", on the right", join(api.JoinSemi, truth, t3(), x.n)}, odd{x.why + ", on the left", union(x.n, t3())})
	}
	return l
}

// badParts is each kind of node with a part too few and too many, and kinds that are none.
func badParts() []odd {
	t, as, es := t3(), cols("", num), []api.Expr{one}
	scanOf := scan("t", num)
	scanOf.L = []api.Node{t}
	return []odd{
		{"a scan of a part", scanOf},
		{"a filter of none", filter(truth)}, {"a filter of two", filter(truth, t, t)},
		{"a project of none", project(as, es)}, {"a project of two", project(as, es, t, t)},
		{"a join of none", join(api.JoinInner, truth)}, {"a join of one", join(api.JoinInner, truth, t)}, {"a join of three", join(api.JoinInner, truth, t, t, t)},
		{"a group of none", group(nil, as, []api.Expr{rows})}, {"a group of two", group(nil, as, []api.Expr{rows}, t, t)},
		{"a distinct of none", distinct()}, {"a distinct of two", distinct(t, t)}, {"a union of none", union()},
		{"a sort of none", order(nil, nil)}, {"a sort of two", order(nil, nil, t, t)}, {"a limit of none", limit(1)}, {"a limit of two", limit(1, t, t)},
		{"nothing", api.Node{}}, {"no kind", api.Node{L: []api.Node{t}}}, {"no kind, of columns", api.Node{Cols: as, Table: "t"}},
		{"kind 10", api.Node{Op: api.NodeLimit + 1, L: []api.Node{t}}}, {"kind -1", api.Node{Op: -1, L: []api.Node{t}}}, {"kind 10 of none", api.Node{Op: api.NodeLimit + 1}},
		{"a kind far off", api.Node{Op: math.MinInt, L: []api.Node{t}}}, {"a kind far beyond", api.Node{Op: math.MaxInt, L: []api.Node{t}}}, {"kind 262", api.Node{Op: 256 + api.NodeDistinct, L: []api.Node{t}}},
	}
}

// each is a tree of each kind, by its kind.
func each() []api.Node {
	return []api.Node{
		api.NodeScan: t3(), api.NodeFilter: filter(truth, t3()), api.NodeProject: project(cols("", num), []api.Expr{one}, t3()),
		api.NodeJoin: join(api.JoinInner, truth, t3(), u2()), api.NodeGroup: group([]int{0}, cols("", num), []api.Expr{rows}, t3()),
		api.NodeDistinct: distinct(t3()), api.NodeUnion: union(t3()), api.NodeSort: order([]int{0}, []bool{true}, t3()), api.NodeLimit: limit(1, t3()),
	}
}

// badFields is each kind of node with something in a place that it does not name.
func badFields() []odd {
	names := map[int]string{
		api.NodeScan: "Table Cols", api.NodeFilter: "E", api.NodeProject: "Cols Es", api.NodeJoin: "E Join", api.NodeGroup: "Cols Es By",
		api.NodeDistinct: "", api.NodeUnion: "", api.NodeSort: "By Down", api.NodeLimit: "N",
	}
	var l []odd
	for kind, n := range each() {
		if kind == 0 {
			continue
		}
		for _, c := range []struct {
			field string
			do    func(n *api.Node)
		}{
			{"Table", func(n *api.Node) { n.Table = "t" }},
			{"Cols", func(n *api.Node) { n.Cols = cols("t", num) }},
			{"Cols", func(n *api.Node) { n.Cols = make([]api.Column, 1) }},
			{"E", func(n *api.Node) { n.E = truth }},
			{"E", func(n *api.Node) { n.E.N = 1 }},
			{"E", func(n *api.Node) { n.E.V.Kind = yes }},
			{"E", func(n *api.Node) { n.E.V.N = 1 }},
			{"E", func(n *api.Node) { n.E.V.S = "x" }},
			{"E", func(n *api.Node) { n.E.Tab = "t" }},
			{"E", func(n *api.Node) { n.E.Col = "x" }},
			{"E", func(n *api.Node) { n.E.L = make([]api.Expr, 1) }},
			{"Es", func(n *api.Node) { n.Es = []api.Expr{one} }},
			{"Es", func(n *api.Node) { n.Es = make([]api.Expr, 1) }},
			{"By", func(n *api.Node) { n.By = []int{0} }},
			{"Down", func(n *api.Node) { n.Down = []bool{false} }},
			{"Join", func(n *api.Node) { n.Join = api.JoinInner }},
			{"Join", func(n *api.Node) { n.Join = -1 }},
			{"N", func(n *api.Node) { n.N = 1 }},
			{"N", func(n *api.Node) { n.N = -1 }},
		} {
			if !slices.Contains(strings.Fields(names[kind]), c.field) {
				x := n
				c.do(&x)
				l = append(l, odd{"kind " + strconv.Itoa(kind) + " with " + c.field, x})
			}
		}
	}
	return l
}

func badScans() []odd {
	l := []odd{{"a scan without columns", scan("t")}, {"a scan of MaxCols columns and one more", scan("t", wide(num, api.MaxCols+1)...)}, {"a scan of very many columns", scan("t", wide(num, 1<<20)...)}}
	for _, name := range []string{"", "SELECT", "COUNT", "NULL", "1", "1a", "a b", " a", "a.b", "é", "*", "'a'", "a--", strings.Repeat("x", api.MaxName+1)} {
		l = append(l, odd{"a scan of " + name, scan(name, num)})
	}
	for _, kind := range []int{null, -1, word + 1, 256 + num, math.MinInt, math.MaxInt} {
		l = append(l, odd{"a column of a type that is none", scan("t", kind)}, odd{"a last column of a type that is none", scan("t", num, word, kind)})
	}
	return l
}

// badExprs is conditions that may not stand in a filter, or a join, of t3 and u2.
func badExprs() []odd {
	var l []odd
	add := func(why string, e api.Expr) {
		l = append(l, odd{"a filter: " + why, filter(e, t3())})
		for kind := api.JoinInner; kind <= api.JoinAnti; kind++ {
			l = append(l, odd{"a join: " + why, join(kind, e, t3(), u2())})
		}
	}
	for why, e := range map[string]api.Expr{
		"nothing": {}, "an int": one, "a text": text, "an int column": place(1), "a text column": place(2), "a sum": op(api.OpAdd, one, one), "an opposite": op(api.OpNeg, none),
		"no type": op(api.OpAnd, truth, one), "unlike parts": op(api.OpEq, place(1), place(2)), "an aggregate": agg(api.AggMax, place(0)), "an aggregate of null": agg(api.AggMin, none),
		"an aggregate within": op(api.OpEq, rows, one), "an aggregate deep within": op(api.OpAnd, place(0), op(api.OpNull, agg(api.AggSum, one))), "the place behind both": place(5), "a far place": place(31),
		"a place that is none": place(api.MaxCols), "a place below 0": place(-1), "a column without name": {Kind: api.ExprCol}, "a literal below 0": op(api.OpLt, lit(value.Int(-1)), one),
		"too deep": deep(api.MaxDepth + 1), "far too deep": deep(1 << 14), "an expression of no kind": {Kind: 9, L: []api.Expr{truth}}, "an operator of none": op(api.OpNot),
	} {
		add(why, e)
	}
	for _, n := range []int{3, 4} { // these are columns of the right side alone
		l = append(l, odd{"a filter by another's column", filter(op(api.OpNull, place(n)), t3())})
	}
	for _, kind := range []int{api.JoinFirst, api.JoinAnti + 1, -1, 256 + api.JoinInner, math.MinInt, math.MaxInt} {
		l = append(l, odd{"a join of kind " + strconv.Itoa(kind), join(kind, truth, t3(), u2())})
	}
	for _, kind := range []int{api.JoinInner, api.JoinLeft} {
		l = append(l, odd{"a join of MaxCols columns and one more", join(kind, truth, scan("t", wide(num, api.MaxCols)...), scan("u", num))},
			odd{"a join of very many", join(kind, truth, scan("t", wide(num, api.MaxCols)...), scan("t", wide(num, api.MaxCols)...))})
	}
	return l
}

// badProjects is projects of t3 that may not be.
func badProjects() []odd {
	l := []odd{
		{"a project of nothing", project(nil, nil, t3())},
		{"a project of no columns", project(nil, []api.Expr{one}, t3())}, {"a project of no expressions", project(cols("", num), nil, t3())},
		{"a column too few", project(cols("", num), []api.Expr{one, one}, t3())}, {"a column too many", project(cols("", num, num), []api.Expr{one}, t3())},
		{"MaxCols columns and one more", project(cols("", wide(num, api.MaxCols+1)...), slices.Repeat([]api.Expr{one}, api.MaxCols+1), t3())},
		{"very many columns", project(cols("", wide(yes, 1<<16)...), slices.Repeat([]api.Expr{deep(api.MaxDepth)}, 1<<16), t3())},
	}
	for _, e := range []api.Expr{{}, lit(value.Int(-1)), {Kind: api.ExprCol, N: 1}, place(3), place(31), op(api.OpAdd, one, text), rows, agg(api.AggMin, one), op(api.OpAdd, one, rows), op(api.OpNeg, deep(api.MaxDepth))} {
		for kind := range 4 {
			l = append(l, odd{"an expression that may not be", project(cols("", kind), []api.Expr{e}, t3())},
				odd{"a last expression that may not be", project(cols("", yes, kind), []api.Expr{truth, e}, t3())})
		}
	}
	for is := range 4 {
		for _, as := range []int{null, yes, num, word, -1, 4, 256 + is} {
			if as != is {
				l = append(l, odd{"a column of another type", project(cols("", as), []api.Expr{ofKind(is)}, t3())},
					odd{"a last column of another type", project(cols("", num, as), []api.Expr{one, ofKind(is)}, t3())})
			}
		}
	}
	return l
}

// badGroups is groups of t3 that may not be.
func badGroups() []odd {
	as, es := cols("", num), []api.Expr{rows}
	l := []odd{
		{"a group of nothing", group(nil, nil, nil, t3())},
		{"no columns", group([]int{0}, nil, es, t3())}, {"no aggregates", group([]int{0}, as, nil, t3())}, {"a column too many", group(nil, cols("", num, num), es, t3())},
		{"MaxCols columns and one more", group([]int{0}, cols("", wide(num, api.MaxCols)...), slices.Repeat(es, api.MaxCols), t3())},
		{"MaxCols columns and one more, without places", group(nil, cols("", wide(num, api.MaxCols+1)...), slices.Repeat(es, api.MaxCols+1), t3())},
		{"MaxCols places and one aggregate", group(places(api.MaxCols), as, es, scan("w", wide(num, api.MaxCols)...))},
	}
	for _, by := range [][]int{{1, 0}, {0, 2, 1}, {0, 0}, {0, 1, 1}, {2, 2}, {-1}, {3}, {0, 3}, {-1, 0}, {0, 1, 2, 3}, {math.MinInt}, {math.MaxInt}, {0, math.MaxInt}, {256}, make([]int, 1<<20), places(1 << 20)} {
		l = append(l, odd{"places " + strconv.Itoa(len(by)), group(by, as, es, t3())})
	}
	for _, e := range []api.Expr{one, none, place(1), op(api.OpAdd, rows, one), op(api.OpNeg, agg(api.AggSum, one)), agg(api.AggSum, text), agg(api.AggSum, place(3)), agg(api.AggSum), agg(api.AggRows, one),
		agg(0, one), agg(api.AggMax+1, one), agg(api.AggSum, rows), {}, agg(api.AggMin, lit(value.Int(-1))), agg(api.AggCount, place(31))} {
		for kind := range 4 {
			l = append(l, odd{"an expression that may not be", group([]int{0}, cols("", kind), []api.Expr{e}, t3())},
				odd{"a last expression that may not be", group([]int{0}, cols("", num, kind), []api.Expr{rows, e}, t3())})
		}
	}
	for e, is := range map[int]int{api.AggRows: num, api.AggCount: num, api.AggSum: num, api.AggMin: word, api.AggMax: word} {
		x := map[int]api.Expr{api.AggRows: rows, api.AggCount: agg(e, place(2)), api.AggSum: agg(e, none), api.AggMin: agg(e, place(2)), api.AggMax: agg(e, text)}[e]
		for _, as := range []int{null, yes, num, word, -1, 4} {
			if as != is {
				l = append(l, odd{"an aggregate of another type", group([]int{0}, cols("", as), []api.Expr{x}, t3())})
			}
		}
	}
	return l
}

func badUnions() []odd {
	typed := func(types ...int) api.Node { return scan("v", types...) }
	first := project(cols("", null, num, word), []api.Expr{none, one, text}, t3())
	return []odd{
		{"a column too few", union(t3(), typed(yes, num))}, {"a column too many", union(t3(), typed(yes, num, word, word))}, {"too few in the last", union(t3(), t3(), u2())},
		{"another first type", union(t3(), typed(num, num, word))}, {"another last type", union(t3(), typed(yes, num, num))}, {"another type in the middle", union(t3(), typed(yes, word, word), t3())},
		{"types turned round", union(typed(num, word), typed(word, num))},
		{"null in the first alone", union(first, t3())}, {"null in the first alone, of three", union(first, first, t3())}, {"null in all of the first", union(nulls(2), u2())},
		{"null in the first, and another type", union(nulls(1), typed(num), typed(word))}, {"unlike behind one of nulls", union(typed(num), nulls(1), typed(word))}, {"nulls too few", union(u2(), nulls(1))}, {"nulls too many", union(u2(), nulls(3))},
	}
}

func badOthers() []odd {
	var l []odd
	for _, by := range [][]int{{-1}, {3}, {0, 3}, {3, 0}, {math.MinInt}, {math.MaxInt}, {256}} {
		l = append(l, odd{"a sort by places that are none", order(by, make([]bool, len(by)), t3())})
	}
	for _, c := range [][2]int{{0, 1}, {1, 0}, {1, 2}, {2, 1}, {3, 2}, {3, 4}, {1, 1 << 20}} {
		l = append(l, odd{"downs too few or too many", order(places(c[0]), make([]bool, c[1]), t3())})
	}
	for _, n := range []int{-1, math.MinInt} {
		l = append(l, odd{"a limit below 0", limit(n, t3())})
	}
	return l
}

// badSizes is trees of too many nodes.
func badSizes() []odd {
	return []odd{
		{"MaxTree and one, a chain", chain(api.MaxTree + 1)}, {"MaxTree and one, a row", row(api.MaxTree + 1)}, {"MaxTree and one, a bush", bush(api.MaxTree + 1)}, {"a long chain", chain(1 << 14)}, {"a long row", row(1 << 16)},
		{"its own part", endless(distinct(), 1)}, {"its own two parts", endless(join(api.JoinSemi, truth), 2)}, {"its own parts", endless(union(), 9)}, {"a scan of itself", endless(t3(), 1)}, {"7 levels that are shared", shared(7)}, {"60 levels that are shared", shared(60)},
		{"its own expression", filter(circle(), t3())}, {"its own expressions", project(cols("", yes), []api.Expr{circle()}, t3())},
	}
}

// circle is an expression whose part is it itself.
func circle() api.Expr {
	l := make([]api.Expr, 1)
	l[0] = op(api.OpNot, l...)
	return l[0]
}
