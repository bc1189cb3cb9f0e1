package bind_test

import (
	"slices"
	"strings"
	"testing"

	"commissary/algebra"
	"commissary/api"
	"commissary/bind"
	"commissary/expr"
)

// wantPart is that Part answers a tree of a text's only part, and Bind the same one.
func wantPart(t *testing.T, text string, want api.Node) {
	t.Helper()
	q := query(t, text)
	got, no := bind.Part(q.Parts[0], tables())
	if no != api.OK || !algebra.Same(got, want) {
		t.Errorf("%s: %d, %+v, not %+v", text, no, got, want)
	}
	if no := algebra.Check(got); no != api.OK {
		t.Errorf("%s: Check %d", text, no)
	}
	whole, no := bind.Bind(q, tables())
	if no != api.OK || !algebra.Same(whole, got) {
		t.Errorf("%s: Bind %d, %+v", text, no, whole)
	}
}

// wantTree is that a text's tree is shown as want.
func wantTree(t *testing.T, text, want string) {
	t.Helper()
	got, no := bind.Bind(query(t, text), tables())
	if no != api.OK || algebra.Show(got) != want {
		t.Errorf("%s: %d, %s, not %s", text, no, algebra.Show(got), want)
	}
}

// wantNo is that a text is refused, and nothing told beside that.
func wantNo(t *testing.T, text string, want api.Errno) {
	t.Helper()
	got, no := bind.Bind(query(t, text), tables())
	if no != want || !algebra.Same(got, api.Node{}) {
		t.Errorf("%s: %d, not %d, %+v", text, no, want, got)
	}
	parts := query(t, text).Parts
	if len(parts) > 1 {
		return
	}
	if got, no := bind.Part(parts[0], tables()); no != want || !algebra.Same(got, api.Node{}) {
		t.Errorf("%s: Part %d, not %d, %+v", text, no, want, got)
	}
}

// P17.1, example 1: sources and items.
func TestSources(t *testing.T) {
	a := named(of("", "a", num))
	wantTree(t, "SELECT a FROM t", "PROJECT(#0; SCAN t)")
	wantPart(t, "SELECT a FROM t", project(a, []api.Expr{col("", "a", 0)}, t3("t")))
	wantPart(t, "SELECT x.a FROM t AS x", project(a, []api.Expr{col("x", "a", 0)}, t3("x")))
	on := op(api.OpEq, col("t", "a", 0), col("u", "a", 3))
	for words, kind := range map[string]int{"JOIN": api.JoinInner, "LEFT JOIN": api.JoinLeft, "SEMI JOIN": api.JoinSemi, "ANTI JOIN": api.JoinAnti} {
		wantPart(t, "SELECT b FROM t "+words+" u ON t.a = u.a", project(named(of("", "b", word)), []api.Expr{col("", "b", 1)}, join(kind, on, t3("t"), u2("u"))))
	}
	three := join(api.JoinLeft, op(api.OpLt, col("y", "c", 6), col("u", "c", 4)), join(api.JoinInner, on, t3("t"), u2("u")), u2("y"))
	wantPart(t, "SELECT y.c FROM t JOIN u ON t.a = u.a LEFT JOIN u AS y ON y.c < u.c", project(named(of("", "c", num)), []api.Expr{col("y", "c", 6)}, three))
	semi := join(api.JoinAnti, op(api.OpEq, col("v", "a", 3), col("t", "a", 0)), join(api.JoinSemi, on, t3("t"), u2("u")), u2("v"))
	wantPart(t, "SELECT a FROM t SEMI JOIN u ON t.a = u.a ANTI JOIN u AS v ON v.a = t.a", project(a, []api.Expr{col("", "a", 0)}, semi))
}

// P17.1: a Where, bound, behind all sources.
func TestWhere(t *testing.T) {
	where := op(api.OpAnd, col("", "z", 2), op(api.OpLt, col("t", "a", 0), one))
	wantPart(t, "SELECT a FROM t WHERE z AND t.a < 1", project(named(of("", "a", num)), []api.Expr{col("", "a", 0)}, filter(where, t3("t"))))
	wantTree(t, "SELECT c FROM t JOIN u ON TRUE WHERE u.a = t.a", "PROJECT(#4; FILTER((#3 = #0), JOIN(TRUE; SCAN t, SCAN u)))")
	wantTree(t, "SELECT a FROM t WHERE NULL", "PROJECT(#0; FILTER(NULL, SCAN t))")
	wantTree(t, "SELECT t.a FROM t JOIN u ON NULL", "PROJECT(#0; JOIN(NULL; SCAN t, SCAN u))")
	wantTree(t, "SELECT a FROM t WHERE z", "PROJECT(#0; FILTER(#2, SCAN t))")
}

// P17.1: a star is all columns, with their names.
func TestStars(t *testing.T) {
	es := []api.Expr{col("t", "a", 0), col("t", "b", 1), col("t", "z", 2)}
	as := named(of("", "a", num), of("", "b", word), of("", "z", yes))
	wantPart(t, "SELECT * FROM t", project(as, es, t3("t")))
	both := append(slices.Clone(es), col("x", "a", 3), col("x", "c", 4))
	bothAs := append(slices.Clone(as), of("", "a", num), of("", "c", num))
	joined := join(api.JoinInner, lit(api.Value{Kind: yes, N: 1}), t3("t"), u2("x"))
	wantPart(t, "SELECT * FROM t JOIN u AS x ON TRUE", project(bothAs, both, joined))
	joined.Join = api.JoinSemi
	wantPart(t, "SELECT *, 1 AS n, * FROM t SEMI JOIN u AS x ON TRUE", project(slices.Concat(as, named(of("", "n", num)), as), slices.Concat(es, []api.Expr{one}, es), joined))
}

// P17.1: what items' columns are called, and their types.
func TestNames(t *testing.T) {
	text := "SELECT a, t.a, a AS b, a + 1, NULL, 'x' AS s, NOT z, a IS NULL AS agg FROM t"
	tree, no := bind.Bind(query(t, text), tables())
	want := named(of("", "a", num), of("", "a", num), of("", "b", num), of("", "(a + 1)", num), of("", "NULL", null), of("", "s", word), of("", "(NOT z)", yes), of("", "agg", yes))
	if no != api.OK || !slices.Equal(tree.Cols, want) {
		t.Errorf("%s: %d, %v", text, no, tree.Cols)
	}
	text = "SELECT COUNT(*), SUM(t.a) AS s, MIN(b), MAX(z) IS NULL, b FROM t GROUP BY b"
	tree, no = bind.Bind(query(t, text), tables())
	want = named(of("", "COUNT(*)", num), of("", "s", num), of("", "MIN(b)", word), of("", "(MAX(z) IS NULL)", yes), of("", "b", word))
	if no != api.OK || !slices.Equal(tree.Cols, want) {
		t.Errorf("%s: %d, %v", text, no, tree.Cols)
	}
}

// P17.1: groups, by places that rise, each once; aggregates as they stand, each once.
func TestGroups(t *testing.T) {
	aggs := []api.Expr{agg(api.AggSum, op(api.OpAdd, col("", "a", 0), one)), rows, agg(api.AggMax, col("t", "b", 1))}
	cols := named(of("", "agg", num), of("", "agg", num), of("", "agg", word))
	items := []api.Expr{
		col("", "z", 1), op(api.OpAdd, col("", "agg", 2), col("", "agg", 3)),
		op(api.OpEq, col("", "agg", 4), lit(api.Value{Kind: word, S: "x"})), op(api.OpSub, col("t", "a", 0), col("", "agg", 2)), col("", "agg", 3),
	}
	as := named(of("", "z", yes), of("", "n", num), of("", "(MAX(t.b) = 'x')", yes), of("", "(t.a - SUM((a + 1)))", num), of("", "COUNT(*)", num))
	wantPart(t, "SELECT z, SUM(a + 1) + COUNT(*) AS n, MAX(t.b) = 'x', t.a - SUM(a + 1), COUNT(*) FROM t GROUP BY z, t.a, a, t.z",
		project(as, items, group([]int{0, 2}, cols, aggs, t3("t"))))
	wantPart(t, "SELECT COUNT(*) FROM t WHERE z", project(named(of("", "COUNT(*)", num)), []api.Expr{col("", "agg", 0)},
		group(nil, cols[:1], []api.Expr{rows}, filter(col("", "z", 2), t3("t")))))
	wantPart(t, "SELECT 1 FROM t GROUP BY b", project(named(of("", "1", num)), []api.Expr{one}, group([]int{1}, nil, nil, t3("t"))))
	wantTree(t, "SELECT SUM(a), SUM(t.a), SUM(a) FROM t", "PROJECT(#0, #1, #0; GROUP(; SUM(#0), SUM(#0); SCAN t))")
	wantTree(t, "SELECT 1, COUNT(z), 2 FROM t", "PROJECT(1, #0, 2; GROUP(; COUNT(#2); SCAN t))")
	wantTree(t, "SELECT u.c, t.b, MIN(u.a) FROM t JOIN u ON TRUE GROUP BY u.c, b", "PROJECT(#1, #0, #2; GROUP(1, 4; MIN(#3); JOIN(TRUE; SCAN t, SCAN u)))")
	wantTree(t, "SELECT a FROM t GROUP BY z, b, a", "PROJECT(#0; GROUP(0, 1, 2; ; SCAN t))")
}

// P17.1: a column called agg is no aggregate's column.
func TestNamedAgg(t *testing.T) {
	wantTree(t, "SELECT agg, SUM(n), g.agg FROM g GROUP BY agg", "PROJECT(#0, #1, #0; GROUP(0; SUM(#1); SCAN g))")
	wantTree(t, "SELECT MIN(agg) FROM g GROUP BY n", "PROJECT(#1; GROUP(1; MIN(#0); SCAN g))")
	wantNo(t, "SELECT agg FROM t GROUP BY a", api.ErrName)
	wantNo(t, "SELECT COUNT(*), agg FROM t", api.ErrName)
	wantNo(t, "SELECT COUNT(*), agg FROM g", api.ErrType)
}

// P17.1: each once, behind all else.
func TestDistinct(t *testing.T) {
	wantPart(t, "SELECT DISTINCT a FROM t", distinct(project(named(of("", "a", num)), []api.Expr{col("", "a", 0)}, t3("t"))))
	wantTree(t, "SELECT DISTINCT z, COUNT(*) FROM t WHERE z GROUP BY z", "DISTINCT(PROJECT(#0, #1; GROUP(2; COUNT(*); FILTER(#2, SCAN t))))")
}

// P17.1: what sources are refused for.
func TestBadSources(t *testing.T) {
	for text, want := range map[string]api.Errno{
		"SELECT a FROM v":                                                          api.ErrNone,
		"SELECT a FROM T":                                                          api.ErrNone,
		"SELECT a FROM t JOIN v ON TRUE":                                           api.ErrNone,
		"SELECT a FROM t AS v JOIN v AS t ON TRUE":                                 api.ErrNone,
		"SELECT a FROM t JOIN t ON TRUE":                                           api.ErrName,
		"SELECT a FROM t JOIN u AS t ON TRUE":                                      api.ErrName,
		"SELECT a FROM u AS t JOIN t ON TRUE":                                      api.ErrName,
		"SELECT a FROM t AS u JOIN u ON TRUE":                                      api.ErrName,
		"SELECT t.a FROM t SEMI JOIN u ON TRUE JOIN u ON TRUE":                     api.ErrName,
		"SELECT t.a FROM t JOIN u ON TRUE JOIN w ON TRUE ANTI JOIN w AS t ON TRUE": api.ErrName,
		"SELECT t.a FROM t JOIN t ON v = 1":                                        api.ErrName,
		"SELECT t.a FROM t JOIN v AS t ON 1":                                       api.ErrNone,
		"SELECT t.a FROM t JOIN u ON v = 1 JOIN v ON TRUE":                         api.ErrName,
		"SELECT t.a FROM t JOIN u ON 1 JOIN v ON TRUE":                             api.ErrType,
		"SELECT t.a FROM t JOIN u ON 1 JOIN u ON TRUE":                             api.ErrType,
		"SELECT t.a FROM w AS t JOIN x ON TRUE JOIN v ON TRUE":                     api.ErrNone,
		"SELECT t.a FROM w AS t JOIN x ON TRUE JOIN one AS x ON TRUE":              api.ErrName,
		"SELECT t.a FROM w AS t JOIN x ON TRUE JOIN one ON q = 1":                  api.ErrLong,
		"SELECT q FROM t JOIN v ON TRUE WHERE q":                                   api.ErrNone,
	} {
		wantNo(t, text, want)
	}
}

// P17.1: what conditions are refused for, On and Where alike.
func TestBadConditions(t *testing.T) {
	for condition, want := range map[string]api.Errno{
		"q":                         api.ErrName,
		"a = 1":                     api.ErrName,
		"x.a = 1":                   api.ErrName,
		"t.c = 1":                   api.ErrName,
		"t.a":                       api.ErrType,
		"b":                         api.ErrType,
		"1":                         api.ErrType,
		"'x'":                       api.ErrType,
		"t.a = b":                   api.ErrType,
		"t.a AND z":                 api.ErrType,
		"t.a + u.a":                 api.ErrType,
		"NOT b AND q":               api.ErrName,
		"z AND t.a = 1 AND c = 'x'": api.ErrType,
	} {
		wantNo(t, "SELECT c FROM t JOIN u ON "+condition, want)
		wantNo(t, "SELECT c FROM t JOIN u ON TRUE WHERE "+condition, want)
		wantNo(t, "SELECT q, a, * FROM t JOIN u ON "+condition+" WHERE 1 GROUP BY q", want)
		wantNo(t, "SELECT q, a, * FROM t JOIN u ON TRUE WHERE "+condition+" GROUP BY q", want)
	}
	wantNo(t, "SELECT t.a FROM t JOIN u ON y.a = 1 JOIN u AS y ON TRUE", api.ErrName)
	wantNo(t, "SELECT a FROM t SEMI JOIN u ON t.a = u.a WHERE c = 1", api.ErrName)
	wantNo(t, "SELECT t.a FROM t ANTI JOIN u ON TRUE JOIN u AS y ON u.a = 1", api.ErrName)
	wantTree(t, "SELECT a FROM t SEMI JOIN u ON t.a = u.a WHERE a = 1", "PROJECT(#0; FILTER((#0 = 1), SEMI((#0 = #3); SCAN t, SCAN u)))")
}

// P17.1: how many columns a join has, with those of its right side, whatever it tells.
func TestWideJoins(t *testing.T) {
	wantTree(t, "SELECT one.c0 FROM w JOIN y ON TRUE JOIN one ON w.c0 = one.c0", "PROJECT(#31; JOIN((#0 = #31); JOIN(TRUE; SCAN w, SCAN y), SCAN one))")
	wantTree(t, "SELECT x.c15 FROM w JOIN x ON x.c0 = w.c1", "PROJECT(#31; JOIN((#16 = #1); SCAN w, SCAN x))")
	wantTree(t, "SELECT w.c0 FROM w SEMI JOIN x ON TRUE SEMI JOIN x AS v ON v.c15 = 1", "PROJECT(#0; SEMI((#31 = 1); SEMI(TRUE; SCAN w, SCAN x), SCAN x))")
	for _, words := range []string{"JOIN", "LEFT JOIN", "SEMI JOIN", "ANTI JOIN"} {
		wantNo(t, "SELECT w.c0 FROM w JOIN x ON TRUE "+words+" one ON TRUE", api.ErrLong)
		wantNo(t, "SELECT w.c0 FROM w LEFT JOIN y ON TRUE "+words+" u ON 1 WHERE q", api.ErrLong)
	}
}

// P17.1: what groups and items are refused for.
func TestBadItems(t *testing.T) {
	for text, want := range map[string]api.Errno{
		"SELECT 1 FROM t GROUP BY q":                                   api.ErrName,
		"SELECT 1 FROM t JOIN u ON TRUE GROUP BY a":                    api.ErrName,
		"SELECT * FROM t JOIN u ON TRUE GROUP BY c, u.b":               api.ErrName,
		"SELECT * FROM t WHERE z GROUP BY a":                           api.ErrType,
		"SELECT COUNT(*), * FROM t":                                    api.ErrType,
		"SELECT *, COUNT(*) FROM t":                                    api.ErrType,
		"SELECT *, q, COUNT(*) FROM t":                                 api.ErrType,
		"SELECT q, *, COUNT(*) FROM t":                                 api.ErrName,
		"SELECT a FROM t JOIN u ON TRUE":                               api.ErrName,
		"SELECT a + q FROM t":                                          api.ErrName,
		"SELECT u.a FROM t":                                            api.ErrName,
		"SELECT a + b FROM t":                                          api.ErrType,
		"SELECT a + b, q FROM t":                                       api.ErrType,
		"SELECT b + q FROM t":                                          api.ErrName,
		"SELECT SUM(q) FROM t":                                         api.ErrName,
		"SELECT SUM(b) FROM t":                                         api.ErrType,
		"SELECT MIN(NOT a) FROM t":                                     api.ErrType,
		"SELECT COUNT(a + b) FROM t":                                   api.ErrType,
		"SELECT a, COUNT(*) FROM t":                                    api.ErrType,
		"SELECT a, COUNT(*) FROM t GROUP BY b":                         api.ErrType,
		"SELECT b, q FROM t GROUP BY a":                                api.ErrType,
		"SELECT q, b FROM t GROUP BY a":                                api.ErrName,
		"SELECT a + z + q FROM t GROUP BY a":                           api.ErrType,
		"SELECT a + z FROM t GROUP BY a, z":                            api.ErrType,
		"SELECT a + z + q FROM t GROUP BY a, z":                        api.ErrName,
		"SELECT q + SUM(b) FROM t":                                     api.ErrType,
		"SELECT b + SUM(q) FROM t":                                     api.ErrName,
		"SELECT q + SUM(b) + SUM(q) FROM t":                            api.ErrType,
		"SELECT SUM(q) + SUM(b) FROM t":                                api.ErrName,
		"SELECT b + SUM(a) FROM t GROUP BY b":                          api.ErrType,
		"SELECT SUM(a) AND z FROM t GROUP BY z":                        api.ErrType,
		"SELECT q FROM t GROUP BY r":                                   api.ErrName,
		"SELECT SUM(b), q FROM t GROUP BY r":                           api.ErrName,
		"SELECT SUM(b) FROM t WHERE 1 GROUP BY r":                      api.ErrType,
		"SELECT c0 FROM w GROUP BY c0, c1, c2, c3, c4, c5, c6, c16":    api.ErrName,
		"SELECT " + list(16, "SUM(c%)", " + ") + ", q FROM w":          api.ErrName,
		"SELECT " + list(16, "SUM(c%)", " + ") + " + SUM(c16) FROM w":  api.ErrName,
		"SELECT DISTINCT a, COUNT(*) FROM t UNION ALL SELECT a FROM t": api.ErrType,
	} {
		wantNo(t, text, want)
	}
}

// P17.1: how many columns groups tell, when an item has been gone through, ahead of its type.
func TestWideGroups(t *testing.T) {
	sums, counts := list(16, "SUM(c%)", " + "), list(16, "COUNT(c%)", " + ")
	all, no := bind.Part(query(t, "SELECT "+sums+" AS s, "+counts+" AS n FROM w").Parts[0], tables())
	if no != api.OK || len(algebra.Columns(all.L[0])) != api.MaxCols || all.L[0].Op != api.NodeGroup {
		t.Errorf("32 aggregates: %d", no)
	}
	for text, want := range map[string]api.Errno{
		"SELECT " + sums + ", " + counts + ", SUM(c0) + COUNT(c1) FROM w":                                 api.OK,
		"SELECT " + sums + ", " + counts + ", COUNT(*) FROM w":                                            api.ErrLong,
		"SELECT " + sums + ", " + counts + ", COUNT(*) + TRUE FROM w":                                     api.ErrLong,
		"SELECT " + sums + ", " + counts + " + TRUE, COUNT(*) FROM w":                                     api.ErrType,
		"SELECT " + sums + ", " + counts + ", COUNT(*) + q FROM w":                                        api.ErrName,
		"SELECT " + sums + ", " + counts + ", COUNT(*) + c0 FROM w":                                       api.ErrType,
		"SELECT " + sums + ", " + counts + ", COUNT(*), q FROM w":                                         api.ErrLong,
		"SELECT q, " + sums + ", " + counts + ", COUNT(*) FROM w":                                         api.ErrName,
		"SELECT " + sums + ", " + list(15, "COUNT(c%)", " + ") + " FROM w GROUP BY c0":                    api.OK,
		"SELECT " + sums + ", " + list(15, "COUNT(c%)", " + ") + " FROM w GROUP BY c0, c0":                api.OK,
		"SELECT " + sums + ", " + list(15, "COUNT(c%)", " + ") + " FROM w GROUP BY c0, c1":                api.ErrLong,
		"SELECT " + sums + ", " + list(8, "COUNT(c%)", " + ") + " FROM w GROUP BY " + list(8, "c%", ", "): api.OK,
		"SELECT " + sums + ", " + list(9, "COUNT(c%)", " + ") + " FROM w GROUP BY " + list(8, "c%", ", "): api.ErrLong,
	} {
		q := query(t, text)
		if got, no := bind.Part(q.Parts[0], tables()); no != want || (no != api.OK) != algebra.Same(got, api.Node{}) {
			t.Errorf("%s: %d, not %d", text, no, want)
		}
	}
}

// P17.1: how many columns a part tells.
func TestWideItems(t *testing.T) {
	for text, want := range map[string]api.Errno{
		"SELECT *, * FROM w":                            api.OK,
		"SELECT *, *, c0 FROM w":                        api.ErrLong,
		"SELECT * FROM w JOIN x ON TRUE":                api.OK,
		"SELECT *, * FROM w JOIN x ON TRUE":             api.ErrLong,
		"SELECT DISTINCT *, w.c0 FROM w JOIN x ON TRUE": api.ErrLong,
		"SELECT *, q FROM w JOIN x ON TRUE":             api.ErrName,
		"SELECT *, *, TRUE + 1 FROM w":                  api.ErrType,
		"SELECT " + list(16, "*", ", ") + " FROM w":     api.ErrLong,
		"SELECT " + list(16, "*", ", ") + " FROM u":     api.OK,
		"SELECT " + list(16, "c%", ", ") + " FROM w":    api.OK,
	} {
		got, no := bind.Part(query(t, text).Parts[0], tables())
		if no != want || (no != api.OK) != algebra.Same(got, api.Node{}) {
			t.Errorf("%s: %d, not %d", text, no, want)
		}
	}
}

// P17.1: a part that may be none goes first, then a catalog that may not be.
func TestPartThatMayNotBe(t *testing.T) {
	good := query(t, "SELECT a FROM nothing").Parts[0]
	twice := append(tables(), tables()[0])
	if got, no := bind.Part(good, twice); no != api.ErrTable || !algebra.Same(got, api.Node{}) {
		t.Errorf("a catalog of a table twice: %d", no)
	}
	for i, change := range []func(s *api.Select){
		func(s *api.Select) { *s = api.Select{} },
		func(s *api.Select) { s.Items = nil },
		func(s *api.Select) { s.Items = slices.Repeat(s.Items, 17) },
		func(s *api.Select) { s.Items[0].E.N = 1 },
		func(s *api.Select) { s.Items[0].As = "a b" },
		func(s *api.Select) { s.Items[0].Star = true },
		func(s *api.Select) { s.From = nil },
		func(s *api.Select) { s.From = slices.Repeat(s.From, 7) },
		func(s *api.Select) { s.From[0].As = "" },
		func(s *api.Select) { s.From[0].Join = api.JoinInner },
		func(s *api.Select) { s.From[0].On = one },
		func(s *api.Select) { s.From = append(s.From, s.From[0]) },
		func(s *api.Select) { s.Where = rows },
		func(s *api.Select) { s.Where = op(api.OpNot) },
		func(s *api.Select) { s.Group = []api.Expr{one} },
		func(s *api.Select) { s.Group = slices.Repeat([]api.Expr{expr.Column("", "a")}, 9) },
	} {
		s := query(t, "SELECT a FROM nothing").Parts[0]
		change(&s)
		for _, c := range [][]api.Table{tables(), twice, nil} {
			if got, no := bind.Part(s, c); no != api.ErrParse || !algebra.Same(got, api.Node{}) {
				t.Errorf("change %d: %d", i, no)
			}
			if got, no := bind.Bind(api.Query{Parts: []api.Select{s}, Limit: -1}, c); no != api.ErrParse || !algebra.Same(got, api.Node{}) {
				t.Errorf("change %d: Bind %d", i, no)
			}
		}
	}
}

// P17.2: groups, or an aggregate in an item.
func TestGrouped(t *testing.T) {
	for text, want := range map[string]bool{
		"SELECT a FROM t":                                   false,
		"SELECT *, a + 1, NOT z FROM t WHERE z":             false,
		"SELECT a FROM t GROUP BY a":                        true,
		"SELECT q FROM nothing GROUP BY r":                  true,
		"SELECT COUNT(*) FROM t":                            true,
		"SELECT a, 1 + - (2 * SUM(a)) FROM t":               true,
		"SELECT a, (MIN(a) IS NULL) OR z FROM t":            true,
		"SELECT DISTINCT a FROM t JOIN u ON TRUE":           false,
		"SELECT DISTINCT MAX(a) FROM t GROUP BY a":          true,
		"SELECT " + list(15, "a", ", ") + ", SUM(b) FROM t": true,
	} {
		if got := bind.Grouped(query(t, text).Parts[0]); got != want {
			t.Errorf("%s: %t", text, got)
		}
	}
	deep := rows
	for range api.MaxDepth - 1 {
		deep = op(api.OpNeg, deep)
	}
	for want, s := range map[bool]api.Select{true: {Items: []api.Item{{Star: true}, {E: deep}}}, false: {Where: rows, Items: []api.Item{{As: strings.Repeat("x", 99)}}}} {
		if got := bind.Grouped(s); got != want {
			t.Errorf("%+v: %t", s, got)
		}
	}
	if bind.Grouped(api.Select{}) || !bind.Grouped(api.Select{Group: []api.Expr{{}}}) {
		t.Error("of parts that may be none")
	}
}
