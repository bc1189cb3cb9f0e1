package bind_test

import (
	"math/rand"
	"reflect"
	"slices"
	"strings"
	"testing"

	"commissary/algebra"
	"commissary/api"
	"commissary/bind"
	"commissary/parse"
	"commissary/show"
	"commissary/value"
)

// wantWhole is that Bind answers a tree of a text.
func wantWhole(t *testing.T, text string, want api.Node) {
	t.Helper()
	got, no := bind.Bind(query(t, text), tables())
	if no != api.OK || !algebra.Same(got, want) {
		t.Errorf("%s: %d, %+v, not %+v", text, no, got, want)
	}
}

// itemA is the tree of SELECT a FROM t.
func itemA() api.Node {
	return project(named(of("", "a", num)), []api.Expr{col("", "a", 0)}, t3("t"))
}

// P17.2: the tree of one part and of many, of keys and limits.
func TestBind(t *testing.T) {
	u := project(named(of("", "c", num)), []api.Expr{col("u", "c", 1)}, u2("u"))
	wantWhole(t, "SELECT a FROM t", itemA())
	wantWhole(t, "SELECT a FROM t UNION ALL SELECT u.c FROM u", union(itemA(), u))
	wantWhole(t, "SELECT a FROM t UNION ALL SELECT u.c FROM u UNION ALL SELECT DISTINCT a FROM t", union(itemA(), u, distinct(itemA())))
	wantWhole(t, "SELECT a FROM t ORDER BY a", order([]int{0}, []bool{false}, itemA()))
	wantWhole(t, "SELECT a FROM t ORDER BY a DESC LIMIT 5", limit(5, order([]int{0}, []bool{true}, itemA())))
	wantWhole(t, "SELECT a FROM t LIMIT 0", limit(0, itemA()))
	wantWhole(t, "SELECT a FROM t UNION ALL SELECT u.c FROM u ORDER BY a, a DESC LIMIT 9007199254740991", limit(api.MaxInt, order([]int{0, 0}, []bool{false, true}, union(itemA(), u))))
	wantTree(t, "SELECT *, a + 1 AS n FROM t ORDER BY z DESC, n, b DESC", "SORT(2-, 3, 1-; PROJECT(#0, #1, #2, (#0 + 1); SCAN t))")
	wantTree(t, "SELECT DISTINCT b, COUNT(*) AS n FROM t GROUP BY b ORDER BY n LIMIT 3", "LIMIT(3; SORT(1; DISTINCT(PROJECT(#0, #1; GROUP(1; COUNT(*); SCAN t)))))")
	wantTree(t, strings.Join(slices.Repeat([]string{"SELECT a FROM t"}, 8), " UNION ALL "), "UNION("+strings.Join(slices.Repeat([]string{"PROJECT(#0; SCAN t)"}, 8), ", ")+")")
}

// P17.2: a further part tells the first one's types, or null.
func TestTypesOfParts(t *testing.T) {
	items := []string{"NULL", "z", "a", "b"}
	for i, first := range items {
		for k, further := range items {
			text := "SELECT " + first + " FROM t UNION ALL SELECT " + further + " FROM t"
			tree, no := bind.Bind(query(t, text), tables())
			want := api.ErrType
			if k == i || k == null {
				want = api.OK
			}
			if no != want || (no != api.OK) != algebra.Same(tree, api.Node{}) {
				t.Errorf("%s: %d, not %d", text, no, want)
			}
			if no == api.OK && algebra.Columns(tree)[0].Type != i {
				t.Errorf("%s tells %v", text, algebra.Columns(tree))
			}
		}
	}
	for text, want := range map[string]api.Errno{
		"SELECT a, b FROM t UNION ALL SELECT a FROM t":                                            api.ErrType,
		"SELECT a FROM t UNION ALL SELECT a, b FROM t":                                            api.ErrType,
		"SELECT a, b FROM t UNION ALL SELECT b, a FROM t":                                         api.ErrType,
		"SELECT * FROM t UNION ALL SELECT a, b, NULL FROM t":                                      api.OK,
		"SELECT a, NULL FROM t UNION ALL SELECT a, b FROM t":                                      api.ErrType,
		"SELECT a FROM t UNION ALL SELECT NULL FROM t UNION ALL SELECT b FROM t":                  api.ErrType,
		"SELECT NULL FROM t UNION ALL SELECT NULL FROM t":                                         api.OK,
		"SELECT a FROM t UNION ALL SELECT c0 FROM w UNION ALL SELECT COUNT(*) FROM x":             api.OK,
		"SELECT a FROM t UNION ALL SELECT c0 IS NULL FROM w":                                      api.ErrType,
		"SELECT *, * FROM w UNION ALL SELECT *, * FROM x":                                         api.OK,
		"SELECT a FROM t UNION ALL SELECT b FROM t UNION ALL SELECT a FROM v":                     api.ErrNone,
		"SELECT q FROM t UNION ALL SELECT a FROM v":                                               api.ErrName,
		"SELECT 1 + TRUE FROM t UNION ALL SELECT q FROM t":                                        api.ErrType,
		"SELECT a FROM t UNION ALL SELECT *, *, c0 FROM w UNION ALL SELECT q FROM t":              api.ErrLong,
		"SELECT a FROM t UNION ALL SELECT a FROM t UNION ALL SELECT a FROM t SEMI JOIN t ON TRUE": api.ErrName,
	} {
		if tree, no := bind.Bind(query(t, text), tables()); no != want || (no != api.OK) != algebra.Same(tree, api.Node{}) {
			t.Errorf("%s: %d, not %d", text, no, want)
		}
	}
}

// P17.2: keys are names of the first part's columns.
func TestKeys(t *testing.T) {
	for text, want := range map[string]api.Errno{
		"SELECT a FROM t ORDER BY b":                                api.ErrName,
		"SELECT a AS n FROM t ORDER BY a":                           api.ErrName,
		"SELECT a AS n FROM t ORDER BY n":                           api.OK,
		"SELECT a, t.a FROM t ORDER BY a":                           api.ErrName,
		"SELECT a, a AS n FROM t ORDER BY a, n":                     api.OK,
		"SELECT a, b AS a FROM t ORDER BY a":                        api.ErrName,
		"SELECT t.a FROM t ORDER BY t":                              api.ErrName,
		"SELECT * FROM t JOIN u ON TRUE ORDER BY a":                 api.ErrName,
		"SELECT * FROM t JOIN u ON TRUE ORDER BY c DESC, b":         api.OK,
		"SELECT a + 1 FROM t ORDER BY a":                            api.ErrName,
		"SELECT COUNT(*) FROM t ORDER BY agg":                       api.ErrName,
		"SELECT a FROM t UNION ALL SELECT a AS n FROM t ORDER BY n": api.ErrName,
		"SELECT a FROM t UNION ALL SELECT a AS n FROM t ORDER BY a": api.OK,
		"SELECT a FROM t UNION ALL SELECT b FROM t ORDER BY q":      api.ErrType,
		"SELECT a FROM t ORDER BY a, a, a, a, a, a, a, q":           api.ErrName,
		"SELECT a FROM t ORDER BY q LIMIT 0":                        api.ErrName,
	} {
		if tree, no := bind.Bind(query(t, text), tables()); no != want || (no != api.OK) != algebra.Same(tree, api.Node{}) {
			t.Errorf("%s: %d, not %d", text, no, want)
		}
	}
}

// six is a part of six sources, whose tree has 12 nodes, and one more for each of what stands behind.
func six(behind string) string {
	return "SELECT s0.c0 FROM one AS s0" + list(5, " JOIN one AS r% ON TRUE", "") + behind
}

// P17.2: how many nodes a tree has, told behind all else.
func TestLargeTrees(t *testing.T) {
	five := strings.Join(slices.Repeat([]string{six("")}, 5), " UNION ALL ")
	tree, no := bind.Bind(query(t, five), tables())
	if no != api.OK || algebra.Size(tree) != 61 {
		t.Errorf("five parts of six sources: %d, %d", no, algebra.Size(tree))
	}
	where := strings.Replace(five, six(""), six(" WHERE TRUE"), 1)
	for text, want := range map[string]api.Errno{
		five + " ORDER BY c0 LIMIT 1":                                                   api.OK,
		where + " ORDER BY c0 LIMIT 1":                                                  api.OK,
		strings.Replace(where, "SELECT", "SELECT DISTINCT", 1) + " ORDER BY c0":         api.OK,
		strings.Replace(where, "SELECT", "SELECT DISTINCT", 1) + " ORDER BY c0 LIMIT 1": api.ErrLong,
		strings.Replace(where, "SELECT", "SELECT DISTINCT", 1) + " ORDER BY q LIMIT 1":  api.ErrName,
		five + " UNION ALL " + six(""):                                                  api.ErrLong,
		five + " UNION ALL " + six("") + " ORDER BY c0":                                 api.ErrLong,
		five + " UNION ALL " + six("") + " ORDER BY q":                                  api.ErrName,
		five + " UNION ALL " + six("") + " UNION ALL SELECT b FROM t":                   api.ErrType,
		five + " UNION ALL " + six("") + " UNION ALL SELECT a FROM v":                   api.ErrNone,
		five + " UNION ALL SELECT a FROM t":                                             api.OK,
		five + " UNION ALL SELECT a FROM t WHERE TRUE":                                  api.OK,
		five + " UNION ALL SELECT DISTINCT a FROM t WHERE TRUE":                         api.ErrLong,
	} {
		tree, no := bind.Bind(query(t, text), tables())
		if no != want || (no != api.OK) != algebra.Same(tree, api.Node{}) {
			t.Errorf("%s: %d, not %d", text, no, want)
		}
	}
}

// P17.2: a query that may not be goes first, then a catalog that may not be.
func TestQueryThatMayNotBe(t *testing.T) {
	for i, change := range []func(q *api.Query){
		func(q *api.Query) { *q = api.Query{} },
		func(q *api.Query) { q.Parts = nil },
		func(q *api.Query) { q.Parts = slices.Repeat(q.Parts, 9) },
		func(q *api.Query) { q.Order = []api.Key{{}} },
		func(q *api.Query) { q.Order = slices.Repeat([]api.Key{{Name: "a"}}, 9) },
		func(q *api.Query) { q.Limit = -2 },
		func(q *api.Query) { q.Limit = api.MaxInt + 1 },
	} {
		q := query(t, "SELECT a FROM nothing")
		change(&q)
		for _, c := range [][]api.Table{tables(), append(tables(), table("t", of("", "a", num))), nil} {
			if got, no := bind.Bind(q, c); no != api.ErrParse || !algebra.Same(got, api.Node{}) {
				t.Errorf("change %d: %d", i, no)
			}
		}
	}
	bad := [][]api.Table{append(tables(), tables()[0]), {table("t")}, {table("", of("", "a", num))}, {table("t", of("x", "a", num))}, {table("t", of("", "a", null))}, make([]api.Table, 17)}
	for i, c := range bad {
		if got, no := bind.Bind(query(t, "SELECT a FROM nothing"), c); no != api.ErrTable || !algebra.Same(got, api.Node{}) {
			t.Errorf("catalog %d: %d", i, no)
		}
	}
	if _, no := bind.Bind(query(t, "SELECT a FROM t"), nil); no != api.ErrNone {
		t.Errorf("a catalog of no tables: %d", no)
	}
}

// texts draws texts of queries over the catalog, most of which are bound.
type texts struct{ *rand.Rand }

func (r texts) one(l ...string) string { return l[r.Intn(len(l))] }

// num is an expression of an int among columns, of so many levels at most.
func (r texts) num(levels int, columns ...string) string {
	if levels == 0 || r.Intn(3) == 0 {
		return r.one(append(columns, "1", "NULL", "7")...)
	}
	return "(" + r.num(levels-1, columns...) + r.one(" + ", " - ", " * ", " / ", " % ") + r.num(levels-1, columns...) + ")"
}

func (r texts) truth(levels int, columns ...string) string {
	if levels == 0 || r.Intn(3) == 0 {
		return r.num(1, columns...) + r.one(" = ", " <> ", " < ", " <= ", " > ", " >= ") + r.num(1, columns...)
	}
	return "(" + r.truth(levels-1, columns...) + r.one(" AND ", " OR ", " AND NOT ") + r.truth(levels-1, columns...) + ")"
}

// part is a part that tells two ints.
func (r texts) part() string {
	from, columns := " FROM t", []string{"t.a"}
	for _, name := range []string{"x", "y"}[:r.Intn(3)] {
		from += r.one(" JOIN u AS ", " LEFT JOIN u AS ") + name + " ON " + r.truth(2, append(columns, name+".a", name+".c")...)
		columns = append(columns, name+".a", name+".c")
	}
	if r.Intn(2) == 0 {
		from += r.one(" SEMI", " ANTI") + " JOIN g ON " + r.truth(1, append(columns, "n", "g.n")...)
	}
	if r.Intn(2) == 0 {
		from += " WHERE " + r.truth(2, columns...)
	}
	words := r.one("SELECT ", "SELECT DISTINCT ")
	if r.Intn(2) == 0 {
		return words + r.num(3, columns...) + " AS n, " + r.num(2, columns...) + " AS m" + from
	}
	plain := slices.Clone(columns)
	for i := range columns {
		if r.Intn(2) == 0 {
			columns[i] = r.one("SUM(", "MIN(", "MAX(", "COUNT(") + r.num(2, plain...) + ")"
		}
	}
	keys := slices.DeleteFunc(slices.Clone(columns), func(c string) bool { return strings.HasSuffix(c, ")") })
	items := words + r.num(2, append(columns, "COUNT(*)")...) + " AS n, " + r.num(2, columns...) + " + SUM(t.a) AS m"
	if len(keys) == 0 {
		return items + from
	}
	return items + from + " GROUP BY " + strings.Join(keys, ", ")
}

func (r texts) query() string {
	text := r.part()
	for range r.Intn(3) {
		text += " UNION ALL " + r.part()
	}
	return text + r.one("", " ORDER BY n", " ORDER BY m DESC, n") + r.one("", " LIMIT 0", " LIMIT 5")
}

// P17.3: what is bound may be; of a query that is shown, and parsed, the tree is the same.
func TestDrawn(t *testing.T) {
	r := texts{rand.New(rand.NewSource(17))}
	bound := 0
	for range 3000 {
		q := query(t, r.query())
		tree, no := bind.Bind(q, tables())
		again, noAgain := bind.Bind(query(t, show.Show(q)), tables())
		if no != noAgain || !algebra.Same(tree, again) {
			t.Fatalf("%s: %d, again %d", show.Show(q), no, noAgain)
		}
		if no != api.OK {
			continue
		}
		bound++
		if algebra.Check(tree) != api.OK {
			t.Fatalf("%s: a tree that may not be", show.Show(q))
		}
		if names := show.Columns(q.Parts[0]); len(algebra.Columns(tree)) != 2 || algebra.Columns(tree)[0].Name != names[0] || algebra.Columns(tree)[1].Tab != "" {
			t.Fatalf("%s tells %v", show.Show(q), algebra.Columns(tree))
		}
	}
	if bound < 1000 {
		t.Errorf("%d of the drawn queries are bound", bound)
	}
}

const everything = "SELECT DISTINCT z, SUM(t.a + 1) AS n, COUNT(*), 'x' FROM t LEFT JOIN u AS x ON t.a = x.a AND x.c < 3 SEMI JOIN g ON n = x.a " +
	"WHERE z AND NOT b = 'y' GROUP BY z, x.a UNION ALL SELECT z, a, 1, b FROM t UNION ALL SELECT v.z, v.a, NULL, NULL FROM t AS v ORDER BY n DESC, z LIMIT 4"

// roomy is q whose lists have room behind their ends, with something in it.
func roomy(q api.Query) api.Query {
	var expr func(e api.Expr) api.Expr
	expr = func(e api.Expr) api.Expr {
		l := make([]api.Expr, 0, len(e.L)+2)
		for _, part := range e.L {
			l = append(l, expr(part))
		}
		e.L = append(l, one, rows)[:len(l)]
		return e
	}
	for i, s := range q.Parts {
		for k := range s.Items {
			s.Items[k].E = expr(s.Items[k].E)
		}
		for k := range s.From {
			s.From[k].On = expr(s.From[k].On)
		}
		s.Where = expr(s.Where)
		s.Items = append(s.Items, api.Item{Star: true})[:len(s.Items)]
		s.From = append(s.From, api.Source{Table: "u"})[:len(s.From)]
		s.Group = append(s.Group, one)[:len(s.Group)]
		q.Parts[i] = s
	}
	q.Order = append(q.Order, api.Key{Name: "z"})[:len(q.Order)]
	return q
}

// R3: what is handed in is not changed, nor what stands behind its lists' ends.
func TestUnchanged(t *testing.T) {
	q, c := roomy(query(t, everything)), tables()
	if _, no := bind.Bind(q, c); no != api.OK {
		t.Fatal(no)
	}
	for _, s := range q.Parts {
		if _, no := bind.Part(s, c); no != api.OK || bind.Grouped(s) != bind.Grouped(s) {
			t.Fatal(no)
		}
	}
	if !parse.Same(q, query(t, everything)) || !reflect.DeepEqual(c, tables()) {
		t.Error("changed")
	}
	if want := roomy(query(t, everything)); !reflect.DeepEqual(whole(q), whole(want)) {
		t.Error("changed behind an end")
	}
}

// whole is q with what stands behind its lists' ends.
func whole(q api.Query) api.Query {
	var expr func(e api.Expr) api.Expr
	expr = func(e api.Expr) api.Expr {
		e.L = slices.Clone(e.L[:cap(e.L)])
		for i := range e.L {
			e.L[i] = expr(e.L[i])
		}
		return e
	}
	q.Parts = slices.Clone(q.Parts)
	for i, s := range q.Parts {
		s.Items, s.From, s.Group = slices.Clone(s.Items[:cap(s.Items)]), slices.Clone(s.From[:cap(s.From)]), slices.Clone(s.Group[:cap(s.Group)])
		for k := range s.Items {
			s.Items[k].E = expr(s.Items[k].E)
		}
		for k := range s.From {
			s.From[k].On = expr(s.From[k].On)
		}
		s.Where = expr(s.Where)
		q.Parts[i] = s
	}
	q.Order = slices.Clone(q.Order[:cap(q.Order)])
	return q
}

// spoil changes all of n's lists, with their spare room.
func spoil(n api.Node) {
	for i := range n.Cols[:cap(n.Cols)] {
		n.Cols[:cap(n.Cols)][i] = of("spoilt", "spoilt", 99)
	}
	for i := range n.By[:cap(n.By)] {
		n.By[:cap(n.By)][i] = 99
	}
	for i := range n.Down[:cap(n.Down)] {
		n.Down[:cap(n.Down)][i] = true
	}
	spoilExpr(n.E)
	for _, e := range n.Es {
		spoilExpr(e)
	}
	for i := range n.Es[:cap(n.Es)] {
		n.Es[:cap(n.Es)][i] = lit(value.Text("spoilt"))
	}
	for _, part := range n.L {
		spoil(part)
	}
	for i := range n.L[:cap(n.L)] {
		n.L[:cap(n.L)][i] = api.Node{Op: 99}
	}
}

func spoilExpr(e api.Expr) {
	for _, part := range e.L {
		spoilExpr(part)
	}
	for i := range e.L[:cap(e.L)] {
		e.L[:cap(e.L)][i] = lit(value.Text("spoilt"))
	}
}

// R3: an answer shares nothing with what was handed in, nor with another answer.
func TestApart(t *testing.T) {
	q, c := query(t, everything), tables()
	first, no := bind.Bind(q, c)
	part, noPart := bind.Part(q.Parts[0], c)
	want := algebra.Show(first)
	spoil(first)
	spoil(part)
	if no != api.OK || noPart != api.OK || !reflect.DeepEqual(q, query(t, everything)) || !reflect.DeepEqual(c, tables()) {
		t.Errorf("%d, %d, or changed", no, noPart)
	}
	if again, no := bind.Bind(q, c); no != api.OK || algebra.Show(again) != want {
		t.Errorf("again: %d, %s, not %s", no, algebra.Show(again), want)
	}
	stars, no := bind.Bind(query(t, "SELECT *, * FROM t UNION ALL SELECT *, * FROM t"), c)
	right := algebra.Show(stars.L[1])
	if spoil(stars.L[0]); no != api.OK || algebra.Show(stars.L[1]) != right || right == "" {
		t.Errorf("two parts share something: %d", no)
	}
}
