package show_test

import (
	"math/rand"
	"reflect"
	"slices"
	"strings"
	"testing"

	"commissary/api"
	"commissary/expr"
	"commissary/lex"
	"commissary/parse"
	"commissary/show"
	"commissary/value"
)

func wantText(t *testing.T, q api.Query, want string) {
	t.Helper()
	if got := show.Show(q); got != want {
		t.Errorf("Show(%+v) = %q, not %q", q, got, want)
	}
}

const fullText = "SELECT DISTINCT *, a, (t.a + 1) AS n, SUM(b) FROM t JOIN u AS v ON (a = b) LEFT JOIN u ON TRUE SEMI JOIN w ON TRUE " +
	"ANTI JOIN x AS y ON (a IS NULL) WHERE (a < 1) GROUP BY a, t.b UNION ALL SELECT * FROM t ORDER BY a DESC, n LIMIT 5"

// P12.1, example 1: a query's text.
func TestShow(t *testing.T) {
	grouped := part(item(a), api.Item{E: rows, As: "n"})
	grouped.Group = []api.Expr{a}
	wantText(t, query(grouped), "SELECT a, COUNT(*) AS n FROM t GROUP BY a")
	wantText(t, full(), fullText)
	wantText(t, query(part(item(a))), "SELECT a FROM t")
	wantText(t, query(part(star(), star())), "SELECT *, * FROM t")
	distinct := part(item(of("t", "a")))
	distinct.Distinct = true
	wantText(t, query(distinct), "SELECT DISTINCT t.a FROM t")
	wantText(t, query(distinct, part(star()), distinct), "SELECT DISTINCT t.a FROM t UNION ALL SELECT * FROM t UNION ALL SELECT DISTINCT t.a FROM t")
}

// P12.1: items and sources, with names and without.
func TestNames(t *testing.T) {
	for want, i := range map[string]api.Item{
		"*": star(), "a": item(a), "a AS a": {E: a, As: "a"}, "a AS b": {E: a, As: "b"}, "t.a AS a": {E: of("t", "a"), As: "a"}, "t.a": item(of("t", "a")),
		"1 AS b": {E: one, As: "b"}, "(a + 1)": item(op(api.OpAdd, a, one)), "(NOT a) AS b": {E: op(api.OpNot, a), As: "b"}, "COUNT(*) AS n": {E: rows, As: "n"}, "(- MAX(t.a)) AS n": {E: op(api.OpNeg, agg(api.AggMax, of("t", "a"))), As: "n"},
		"'it''s' AS b": {E: lit(value.Text("it's")), As: "b"}, "NULL": item(lit(value.Null())), "((a IS NULL) OR (b IS NOT NULL))": item(op(api.OpOr, op(api.OpNull, a), op(api.OpThere, b))),
	} {
		wantText(t, query(part(i)), "SELECT "+want+" FROM t")
		wantText(t, query(part(i, star(), i)), "SELECT "+want+", *, "+want+" FROM t")
	}
	for want, s := range map[string]api.Source{"t": {Table: "t", As: "t"}, "t AS u": {Table: "t", As: "u"}, "t AS T": {Table: "t", As: "T"}, "a": {Table: "a", As: "a"}} {
		wantText(t, query(api.Select{Items: []api.Item{star()}, From: []api.Source{s}}), "SELECT * FROM "+want)
		for words, kind := range map[string]int{"JOIN": api.JoinInner, "LEFT JOIN": api.JoinLeft, "SEMI JOIN": api.JoinSemi, "ANTI JOIN": api.JoinAnti} {
			join := s
			join.Join, join.On = kind, op(api.OpEq, a, b)
			wantText(t, query(api.Select{Items: []api.Item{star()}, From: []api.Source{s, join}}), "SELECT * FROM "+want+" "+words+" "+want+" ON (a = b)")
			join.On = yes
			wantText(t, query(api.Select{Items: []api.Item{star()}, From: []api.Source{s, join, join}}), "SELECT * FROM "+want+strings.Repeat(" "+words+" "+want+" ON TRUE", 2))
		}
	}
}

// P12.1: what stands there only if there is something.
func TestSomething(t *testing.T) {
	for want, change := range map[string]func(q *api.Query){
		"": func(q *api.Query) {
			q.Parts[0].Where.L, q.Parts[0].Group, q.Order = []api.Expr{}, []api.Expr{}, []api.Key{}
		},
		" WHERE a":                     func(q *api.Query) { q.Parts[0].Where = a },
		" WHERE NULL":                  func(q *api.Query) { q.Parts[0].Where = lit(value.Null()) },
		" WHERE FALSE":                 func(q *api.Query) { q.Parts[0].Where = lit(value.Bool(false)) },
		" WHERE (a OR b) GROUP BY b":   func(q *api.Query) { q.Parts[0].Where, q.Parts[0].Group = op(api.OpOr, a, b), []api.Expr{b} },
		" GROUP BY t.a, b, t.a":        func(q *api.Query) { q.Parts[0].Group = []api.Expr{of("t", "a"), b, of("t", "a")} },
		" ORDER BY a":                  func(q *api.Query) { q.Order = []api.Key{{Name: "a"}} },
		" ORDER BY a DESC":             func(q *api.Query) { q.Order = []api.Key{{Name: "a", Down: true}} },
		" ORDER BY a, b DESC, a":       func(q *api.Query) { q.Order = []api.Key{{Name: "a"}, {Name: "b", Down: true}, {Name: "a"}} },
		" LIMIT 0":                     func(q *api.Query) { q.Limit = 0 },
		" LIMIT 1":                     func(q *api.Query) { q.Limit = 1 },
		" LIMIT 9007199254740991":      func(q *api.Query) { q.Limit = api.MaxInt },
		" ORDER BY desc DESC LIMIT 10": func(q *api.Query) { q.Order, q.Limit = []api.Key{{Name: "desc", Down: true}}, 10 },
		" UNION ALL SELECT b FROM u ORDER BY b LIMIT 2": func(q *api.Query) {
			q.Parts = append(q.Parts, api.Select{Items: []api.Item{item(b)}, From: from("u")})
			q.Order, q.Limit = []api.Key{{Name: "b"}}, 2
		},
	} {
		q := query(part(item(a)))
		change(&q)
		wantText(t, q, "SELECT a FROM t"+want)
	}
}

// P12.1: of what may not be there is no text.
func TestNoText(t *testing.T) {
	for i, change := range slices.Concat(odd(), oddQueries()) {
		q := full()
		change(&q)
		if got := show.Show(q); got != "" {
			t.Errorf("change %d: %q", i, got)
		}
	}
	for i, change := range odd() {
		q := full()
		if change(&q); len(q.Parts) != 2 {
			continue
		}
		if got := show.Part(q.Parts[0]); got != "" {
			t.Errorf("change %d: Part: %q", i, got)
		}
	}
	wantText(t, api.Query{}, "")
	if got := show.Part(api.Select{}); got != "" {
		t.Error(got)
	}
}

// P12.1: a part's text is a query's of it alone.
func TestPart(t *testing.T) {
	q := full()
	head, _, _ := strings.Cut(fullText, " UNION ALL ")
	if got := show.Part(q.Parts[0]); got != head {
		t.Errorf("%q", got)
	}
	if got := show.Part(q.Parts[1]); got != "SELECT * FROM t" {
		t.Errorf("%q", got)
	}
	d := drawer{rand.New(rand.NewSource(1))}
	for range 1000 {
		s := d.part()
		if got, want := show.Part(s), show.Show(query(s)); got != want || got == "" {
			t.Fatalf("Part(%+v) = %q, not %q", s, got, want)
		}
	}
}

// P12.2: the names of items, as often as they stand there.
func TestColumns(t *testing.T) {
	for _, x := range []struct {
		i    api.Item
		want string
	}{
		{star(), "*"}, {item(a), "a"}, {item(of("t", "a")), "a"}, {item(of("a", "t")), "t"}, {api.Item{E: a, As: "b"}, "b"}, {api.Item{E: of("t", "a"), As: "n"}, "n"},
		{item(one), "1"}, {api.Item{E: one, As: "a"}, "a"}, {item(lit(value.Text("it's"))), "'it''s'"}, {item(lit(value.Null())), "NULL"}, {item(yes), "TRUE"},
		{item(op(api.OpAdd, of("t", "a"), one)), "(t.a + 1)"}, {api.Item{E: op(api.OpAdd, a, one), As: "sum"}, "sum"}, {item(op(api.OpNeg, a)), "(- a)"},
		{item(rows), "COUNT(*)"}, {item(agg(api.AggSum, of("t", "a"))), "SUM(t.a)"}, {api.Item{E: rows, As: "n"}, "n"},
	} {
		if got := show.Columns(part(x.i)); !slices.Equal(got, []string{x.want}) {
			t.Errorf("Columns of %+v: %q, not %q", x.i, got, x.want)
		}
	}
	if got := show.Columns(full().Parts[0]); !slices.Equal(got, []string{"*", "a", "n", "SUM(b)"}) {
		t.Errorf("%q", got)
	}
	if got := show.Columns(part(item(a), api.Item{E: b, As: "a"}, star(), item(a), star())); !slices.Equal(got, []string{"a", "a", "*", "a", "*"}) {
		t.Errorf("%q", got)
	}
	d := drawer{rand.New(rand.NewSource(1))}
	for range 1000 {
		s := d.part()
		var want []string
		for _, i := range s.Items {
			text, _, _ := strings.Cut(strings.TrimPrefix(show.Part(part(i)), "SELECT "), " FROM t")
			switch {
			case i.As != "":
				text = i.As
			case !i.Star && i.E.Kind == api.ExprCol:
				text = i.E.Col
			case !i.Star:
				text = expr.Show(i.E)
			}
			want = append(want, text)
		}
		if got := show.Columns(s); !slices.Equal(got, want) {
			t.Fatalf("Columns(%+v) = %q, not %q", s, got, want)
		}
	}
}

// checkShown is that what is shown is parsed as the same query, if it is not too long.
func checkShown(t *testing.T, q api.Query) bool {
	t.Helper()
	text := show.Show(q)
	if text == "" {
		t.Fatalf("%+v has no text", q)
	}
	if _, _, e := lex.All(text); e == api.ErrLong {
		return false
	}
	got, place, e := parse.Parse(text)
	if e != api.OK || place != 0 || !parse.Same(got, q) {
		t.Fatalf("%q: %+v, %d, %d, not %+v", text, got, place, e, q)
	}
	if again := show.Show(got); again != text {
		t.Fatalf("%q, then %q", text, again)
	}
	return true
}

// P12.3: what is shown is parsed as the same query.
func TestShown(t *testing.T) {
	checkShown(t, full())
	d := drawer{rand.New(rand.NewSource(1))}
	short := 0
	for range 2000 {
		q := d.query()
		if parse.Check(q) != api.OK {
			t.Fatalf("%+v may not be", q)
		}
		if checkShown(t, q) {
			short++
		}
	}
	if short < 1000 {
		t.Error("too few texts are short enough:", short)
	}
}

// P12.3: a query of which no field is told may not be, whichever field it is.
func TestUntold(t *testing.T) {
	for i, change := range []func(q *api.Query){
		func(q *api.Query) { q.Parts[0].Where = api.Expr{N: 1} },
		func(q *api.Query) { q.Parts[0].Where = api.Expr{Col: "a"} },
		func(q *api.Query) { q.Parts[0].Where = api.Expr{L: []api.Expr{a}} },
		func(q *api.Query) { q.Parts[0].From[0].On = api.Expr{V: value.Int(1)} },
		func(q *api.Query) { q.Parts[0].From[0].On = api.Expr{Tab: "t"} },
		func(q *api.Query) { q.Parts[0].Items[0].E = api.Expr{N: 1} },
		func(q *api.Query) { q.Parts[0].Items[0].E = api.Expr{L: []api.Expr{a}} },
		func(q *api.Query) { q.Parts[0].Items[1].E.N = 5 },
		func(q *api.Query) { q.Parts[0].Group[0].N = 5 },
	} {
		q := full()
		change(&q)
		if text := show.Show(q); text != "" {
			if got, _, e := parse.Parse(text); e != api.OK || !parse.Same(got, q) {
				t.Errorf("change %d: %q is parsed as another query", i, text)
			}
		}
	}
}

// P12.1: a text may be longer than what is parsed.
func TestLong(t *testing.T) {
	long := op(api.OpAnd, a, b)
	for range 7 {
		long = op(api.OpAnd, long, long)
	}
	q := query(part(slices.Repeat([]api.Item{item(long)}, api.MaxItems)...))
	text := show.Show(q)
	if want := "SELECT " + strings.TrimSuffix(strings.Repeat(expr.Show(long)+", ", api.MaxItems), ", ") + " FROM t"; text != want || len(text) <= api.MaxQuery {
		t.Error(len(text), len(want))
	}
	if _, place, e := parse.Parse(text); e != api.ErrLong || place != 0 {
		t.Error(place, e)
	}
}

// R3: what is handed in stays as it is, and what is answered is apart.
func TestUnchanged(t *testing.T) {
	for i, change := range slices.Concat(odd(), oddQueries(), []func(q *api.Query){func(q *api.Query) {}}) {
		q, again := full(), full()
		change(&q)
		change(&again)
		show.Show(q)
		for _, s := range q.Parts {
			show.Part(s)
			show.Columns(s)
		}
		if !reflect.DeepEqual(q, again) {
			t.Errorf("change %d: what is handed in is changed", i)
		}
	}
	s := full().Parts[0]
	names := show.Columns(s)
	clear(names[:cap(names)])
	if got := show.Columns(s); !slices.Equal(got, []string{"*", "a", "n", "SUM(b)"}) {
		t.Errorf("%q", got)
	}
}

// P12.3: of any text that is a query.
func FuzzShow(f *testing.F) {
	for _, text := range []string{fullText, "SELECT a, COUNT(*) AS n FROM t GROUP BY a", "SELECT 'it''s' -- x\n FROM t AS u LIMIT 0", "SELECT - - a IS NULL FROM t"} {
		f.Add(text)
	}
	f.Fuzz(func(t *testing.T, text string) {
		if q, _, e := parse.Parse(text); e == api.OK {
			checkShown(t, q)
		}
	})
}
