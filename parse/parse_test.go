package parse_test

import (
	"strings"
	"testing"

	"commissary/api"
	"commissary/expr"
	"commissary/lex"
	"commissary/parse"
	"commissary/value"
)

func wantQuery(t *testing.T, text string, want api.Query) {
	t.Helper()
	got, place, e := parse.Parse(text)
	if e != api.OK || place != 0 || !sameQuery(got, want) {
		t.Errorf("Parse(%.200q) = %+v, %d, %d, not %+v", text, got, place, e, want)
	}
	if parse.Check(got) != api.OK {
		t.Errorf("%.200q is parsed as what may not be", text)
	}
}

func wantErr(t *testing.T, text string, place int, want api.Errno) {
	t.Helper()
	got, n, e := parse.Parse(text)
	if !sameQuery(got, api.Query{}) || n != place || e != want {
		t.Errorf("Parse(%.200q) = %+v, %d, %d, not %d, %d", text, got, n, e, place, want)
	}
}

func wantExpr(t *testing.T, text string, want api.Expr) {
	t.Helper()
	got, place, e := parse.Expr(text)
	if e != api.OK || place != 0 || !sameExpr(got, want) {
		t.Errorf("Expr(%.200q) = %s %+v, %d, %d, not %s", text, expr.Show(got), got, place, e, expr.Show(want))
	}
}

func wantExprErr(t *testing.T, text string, place int, want api.Errno) {
	t.Helper()
	got, n, e := parse.Expr(text)
	if !sameExpr(got, api.Expr{}) || n != place || e != want {
		t.Errorf("Expr(%.200q) = %+v, %d, %d, not %d, %d", text, got, n, e, place, want)
	}
}

// P11.1: queries, each part of the grammar with and without what may be left out.
func TestParse(t *testing.T) {
	wantQuery(t, "SELECT a FROM t", plain(a))
	wantQuery(t, fullText, full())
	part := func(change func(s *api.Select)) api.Query {
		q := plain(a)
		change(&q.Parts[0])
		return q
	}
	for text, want := range map[string]api.Query{
		"SELECT DISTINCT a FROM t":              part(func(s *api.Select) { s.Distinct = true }),
		"SELECT * FROM t":                       part(func(s *api.Select) { s.Items = []api.Item{star()} }),
		"SELECT *, *, a, * FROM t":              part(func(s *api.Select) { s.Items = []api.Item{star(), star(), item(a), star()} }),
		"SELECT a AS b, b AS a, b FROM t":       part(func(s *api.Select) { s.Items = []api.Item{{E: a, As: "b"}, {E: b, As: "a"}, item(b)} }),
		"SELECT t.a FROM t":                     plain(of("t", "a")),
		"SELECT 'FROM' FROM t":                  plain(lit(value.Text("FROM"))),
		"SELECT COUNT(*) AS n FROM t":           part(func(s *api.Select) { s.Items = []api.Item{{E: rows, As: "n"}} }),
		"SELECT a * a FROM t":                   plain(op(api.OpMul, a, a)),
		"SELECT a FROM t AS u":                  part(func(s *api.Select) { s.From = []api.Source{{Table: "t", As: "u"}} }),
		"SELECT a FROM t AS t":                  plain(a),
		"SELECT a FROM t WHERE b":               part(func(s *api.Select) { s.Where = b }),
		"SELECT a FROM t WHERE NOT a OR b":      part(func(s *api.Select) { s.Where = op(api.OpOr, op(api.OpNot, a), b) }),
		"SELECT a FROM t GROUP BY a":            part(func(s *api.Select) { s.Group = []api.Expr{a} }),
		"SELECT a FROM t GROUP BY t.a, b, a, a": part(func(s *api.Select) { s.Group = []api.Expr{of("t", "a"), b, a, a} }),
		"SELECT a FROM t WHERE b GROUP BY c":    part(func(s *api.Select) { s.Where, s.Group = b, []api.Expr{c} }),
	} {
		wantQuery(t, text, want)
	}
}

// P11.1: each kind of join, and sources with and without a name of their own.
func TestJoins(t *testing.T) {
	for words, kind := range map[string]int{"JOIN": api.JoinInner, "LEFT JOIN": api.JoinLeft, "SEMI JOIN": api.JoinSemi, "ANTI JOIN": api.JoinAnti} {
		q := plain(a)
		q.Parts[0].From = append(from("t"), joined(kind, "u", "u", op(api.OpEq, a, b)))
		wantQuery(t, "SELECT a FROM t "+words+" u ON a = b", q)
		q.Parts[0].From = []api.Source{{Table: "t", As: "v"}, joined(kind, "u", "w", yes), joined(kind, "t", "t", op(api.OpOr, a, b)), joined(api.JoinInner, "x", "x", op(api.OpNot, a))}
		wantQuery(t, "SELECT a FROM t AS v "+words+" u AS w ON TRUE "+words+" t ON a OR b JOIN x ON NOT a", q)
		q.Parts[0].From = append(from("t"), joined(kind, "u", "t", yes))
		q.Parts[0].Where = b
		wantQuery(t, "SELECT a FROM t "+words+" u AS t ON TRUE WHERE b", q)
	}
}

// P11.1: parts, keys and limits, which are the whole query's.
func TestParts(t *testing.T) {
	p, s := plain(a).Parts[0], plain(b).Parts[0]
	s.Distinct, s.Where, s.Group = true, yes, []api.Expr{b}
	const first, second = "SELECT a FROM t", "SELECT DISTINCT b FROM t WHERE TRUE GROUP BY b"
	key := func(l ...api.Key) []api.Key { return l }
	wantQuery(t, first+" UNION ALL "+second, query(p, s))
	wantQuery(t, second+" UNION ALL "+first+" UNION ALL "+first, query(s, p, p))
	for text, want := range map[string]api.Query{
		"":                            query(p),
		" ORDER BY a":                 {Parts: query(p).Parts, Order: key(api.Key{Name: "a"}), Limit: -1},
		" ORDER BY a DESC":            {Parts: query(p).Parts, Order: key(api.Key{Name: "a", Down: true}), Limit: -1},
		" ORDER BY a, b DESC, a":      {Parts: query(p).Parts, Order: key(api.Key{Name: "a"}, api.Key{Name: "b", Down: true}, api.Key{Name: "a"}), Limit: -1},
		" LIMIT 0":                    {Parts: query(p).Parts},
		" LIMIT 7":                    {Parts: query(p).Parts, Limit: 7},
		" LIMIT 9007199254740991":     {Parts: query(p).Parts, Limit: api.MaxInt},
		" ORDER BY a DESC LIMIT 0010": {Parts: query(p).Parts, Order: key(api.Key{Name: "a", Down: true}), Limit: 10},
		" UNION ALL " + second + " ORDER BY b LIMIT 1": {Parts: query(p, s).Parts, Order: key(api.Key{Name: "b"}), Limit: 1},
	} {
		wantQuery(t, first+text, want)
	}
}

// P11.1, example 1: expressions, put together from the left, each level within the one below it.
func TestExpr(t *testing.T) {
	for text, want := range map[string]string{
		"a + 1 < b AND c":                   "(((a + 1) < b) AND c)",
		"a OR b OR c":                       "((a OR b) OR c)",
		"a OR (b OR c)":                     "(a OR (b OR c))",
		"a AND b AND c":                     "((a AND b) AND c)",
		"a OR b AND c":                      "(a OR (b AND c))",
		"a AND b OR c":                      "((a AND b) OR c)",
		"a AND (b OR c)":                    "(a AND (b OR c))",
		"a OR b AND c OR d":                 "((a OR (b AND c)) OR d)",
		"NOT a OR b":                        "((NOT a) OR b)",
		"NOT a AND b":                       "((NOT a) AND b)",
		"a AND NOT b AND c":                 "((a AND (NOT b)) AND c)",
		"NOT a = b":                         "(NOT (a = b))",
		"NOT (a) = b":                       "(NOT (a = b))",
		"(NOT a) = b":                       "((NOT a) = b)",
		"NOT NOT a":                         "(NOT (NOT a))",
		"NOT NOT NOT a < b":                 "(NOT (NOT (NOT (a < b))))",
		"NOT a IS NULL":                     "(NOT (a IS NULL))",
		"NOT - a":                           "(NOT (- a))",
		"a = b = c":                         "((a = b) = c)",
		"a = b <> c":                        "((a = b) <> c)",
		"a < b > c <= d >= e":               "((((a < b) > c) <= d) >= e)",
		"a < (b < c)":                       "(a < (b < c))",
		"a = b AND c = d":                   "((a = b) AND (c = d))",
		"a + b = c + d":                     "((a + b) = (c + d))",
		"a IS NULL":                         "(a IS NULL)",
		"a IS NOT NULL":                     "(a IS NOT NULL)",
		"a IS NULL IS NULL":                 "((a IS NULL) IS NULL)",
		"a IS NOT NULL IS NULL IS NOT NULL": "(((a IS NOT NULL) IS NULL) IS NOT NULL)",
		"a = b IS NULL":                     "((a = b) IS NULL)",
		"a = (b IS NULL)":                   "(a = (b IS NULL))",
		"a IS NULL = b":                     "((a IS NULL) = b)",
		"a IS NOT NULL < b = c IS NULL":     "((((a IS NOT NULL) < b) = c) IS NULL)",
		"a + b IS NULL":                     "((a + b) IS NULL)",
		"NULL IS NOT NULL":                  "(NULL IS NOT NULL)",
		"a + b - c + d":                     "(((a + b) - c) + d)",
		"a - (b - c)":                       "(a - (b - c))",
		"a + b * c":                         "(a + (b * c))",
		"a * b + c":                         "((a * b) + c)",
		"(a + b) * c":                       "((a + b) * c)",
		"a * b / c % d":                     "(((a * b) / c) % d)",
		"a % b * c":                         "((a % b) * c)",
		"a / (b / c)":                       "(a / (b / c))",
		"a * b - c / d + e":                 "(((a * b) - (c / d)) + e)",
		"-a":                                "(- a)",
		"-1":                                "(- 1)",
		"- - a":                             "(- (- a))",
		"- - - 1":                           "(- (- (- 1)))",
		"-a * b":                            "((- a) * b)",
		"a * -b":                            "(a * (- b))",
		"-a + -b":                           "((- a) + (- b))",
		"a - -b":                            "(a - (- b))",
		"-(a * b)":                          "(- (a * b))",
		"- a IS NULL":                       "((- a) IS NULL)",
		"(((a)))":                           "a",
		"((a)) + ((1))":                     "(a + 1)",
		"COUNT(*)":                          "COUNT(*)",
		"COUNT(a)":                          "COUNT(a)",
		"COUNT((a))":                        "COUNT(a)",
		"SUM(a) + MIN(b) * MAX(t.c)":        "(SUM(a) + (MIN(b) * MAX(t.c)))",
		"SUM(a OR b = 1)":                   "SUM((a OR (b = 1)))",
		"COUNT(*) / COUNT(a)":               "(COUNT(*) / COUNT(a))",
		"- COUNT ( * ) * 2":                 "((- COUNT(*)) * 2)",
		"count.sum":                         "count.sum",
		"t.a = u.a":                         "(t.a = u.a)",
		"007":                               "7",
		"'it''s' = ''":                      "('it''s' = '')",
		"TRUE OR FALSE":                     "(TRUE OR FALSE)",
	} {
		got, place, e := parse.Expr(text)
		if e != api.OK || place != 0 || expr.Show(got) != want {
			t.Errorf("Expr(%q) = %s, %d, %d, not %s", text, expr.Show(got), place, e, want)
		}
		wantQuery(t, "SELECT "+text+" FROM t", plain(got))
	}
}

// P11.1: what each first thing of an expression is, down to all its fields.
func TestFirst(t *testing.T) {
	for text, want := range map[string]api.Expr{
		"0": lit(value.Int(0)), "9007199254740991": lit(value.Int(api.MaxInt)), "0001": one,
		"''": lit(value.Text("")), "'a'": lit(value.Text("a")), "''''": lit(value.Text("'")), "'*'": lit(value.Text("*")), "'NULL'": lit(value.Text("NULL")),
		"TRUE": yes, "FALSE": lit(value.Bool(false)), "NULL": lit(value.Null()),
		"true": col("true"), "null.sum": of("null", "sum"), "a": a, "t . a": of("t", "a"), "_": col("_"),
		"COUNT(*)": rows, "COUNT(a)": agg(api.AggCount, a), "SUM(a)": agg(api.AggSum, a), "MIN(1)": agg(api.AggMin, one), "MAX(TRUE)": agg(api.AggMax, yes),
		"(a)": a, "((NULL))": lit(value.Null()), "-1": op(api.OpNeg, one), "-9007199254740991": op(api.OpNeg, lit(value.Int(api.MaxInt))),
		"NOT a": op(api.OpNot, a), "a IS NULL": op(api.OpNull, a), "a IS NOT NULL": op(api.OpThere, a),
		"a OR b": op(api.OpOr, a, b), "a AND b": op(api.OpAnd, a, b), "a = b": op(api.OpEq, a, b), "a <> b": op(api.OpNe, a, b),
		"a < b": op(api.OpLt, a, b), "a <= b": op(api.OpLe, a, b), "a > b": op(api.OpGt, a, b), "a >= b": op(api.OpGe, a, b),
		"a + b": op(api.OpAdd, a, b), "a - b": op(api.OpSub, a, b), "a * b": op(api.OpMul, a, b), "a / b": op(api.OpDiv, a, b), "a % b": op(api.OpMod, a, b),
	} {
		wantExpr(t, text, want)
	}
}

// P11.1: what lex.All refuses goes ahead of the grammar, with its place.
func TestNoTokens(t *testing.T) {
	for _, text := range []string{
		"!", "SELECT a FROM t WHERE a ! b", "FROM !", "SELECT SELECT 1a", ") 'a", "a b c 9007199254740992", "a + " + strings.Repeat("x", api.MaxName+1),
		strings.Repeat(" ", api.MaxQuery) + "a", strings.Repeat("a,", api.MaxTokens/2), "SELECT " + strings.Repeat("(", api.MaxTokens), strings.Repeat("!", api.MaxQuery+1),
	} {
		_, place, e := lex.All(text)
		if e != api.ErrLex && e != api.ErrLong {
			t.Fatalf("%.99q: %d", text, e)
		}
		wantErr(t, text, place, e)
		wantExprErr(t, text, place, e)
	}
	wantErr(t, "SELECT a FROM t ?", 16, api.ErrLex)
	wantErr(t, "a ?", 2, api.ErrLex)
	wantExprErr(t, "a + ?", 4, api.ErrLex)
	wantErr(t, "SELECT "+strings.Repeat("(", api.MaxTokens), 7+api.MaxTokens-1, api.ErrLong)
}

// P11.1: the first token that may not stand there, the end too.
func TestPlaces(t *testing.T) {
	for text, place := range map[string]int{
		"": 0, " ": 1, "-- a": 4, " \n--": 4, "a": 0, "  FROM": 2, "select a from t": 0, "'SELECT' a FROM t": 0,
		"SELECT": 6, "SELECT ": 7, "SELECT -- a": 11, "SELECT FROM t": 7, "SELECT , a FROM t": 7, "SELECT DISTINCT DISTINCT a FROM t": 16, "SELECT ALL a FROM t": 7,
		"SELECT a": 8, "SELECT a b FROM t": 9, "SELECT a, FROM t": 10, "SELECT a AS FROM t": 12, "SELECT a AS 'b' FROM t": 12, "SELECT a AS b.c FROM t": 13, "SELECT a AS b AS c FROM t": 14,
		"SELECT * AS a FROM t": 9, "SELECT * + 1 FROM t": 9, "SELECT t.* FROM t": 9, "SELECT a, * * FROM t": 12, "SELECT a 'FROM' t": 9, "SELECT a ',' b FROM t": 9, "SELECT - * FROM t": 9,
		"SELECT a FROM": 13, "SELECT a FROM 't'": 14, "SELECT a FROM 1": 14, "SELECT a FROM (t)": 14, "SELECT a FROM t u": 16, "SELECT a FROM t AS": 18, "SELECT a FROM t, u": 15, "SELECT a FROM t.u": 15,
		"SELECT a FROM t JOIN": 20, "SELECT a FROM t JOIN u": 22, "SELECT a FROM t JOIN u WHERE b": 23, "SELECT a FROM t ON TRUE": 16, "SELECT a FROM t JOIN u ON": 25, "SELECT a FROM t JOIN u ON TRUE ON TRUE": 31,
		"SELECT a FROM t LEFT u ON TRUE": 21, "SELECT a FROM t SEMI u ON TRUE": 21, "SELECT a FROM t ANTI u ON TRUE": 21, "SELECT a FROM t LEFT SEMI JOIN u ON TRUE": 21, "SELECT a FROM LEFT JOIN u ON TRUE": 14,
		"SELECT a FROM t WHERE": 21, "SELECT a FROM t WHERE *": 22, "SELECT a FROM t WHERE a WHERE b": 24, "SELECT a FROM t WHERE a JOIN u ON b": 24, "SELECT a WHERE b FROM t": 9,
		"SELECT a FROM t GROUP a": 22, "SELECT a FROM t GROUP BY": 24, "SELECT a FROM t GROUP BY 1": 25, "SELECT a FROM t GROUP BY a + 1": 27, "SELECT a FROM t GROUP BY (a)": 25, "SELECT a FROM t GROUP BY a,": 27, "SELECT a FROM t GROUP BY a b": 27, "SELECT a FROM t GROUP BY a WHERE b": 27, "SELECT a FROM t GROUP BY t.a.b": 28,
		"SELECT a FROM t UNION SELECT a FROM t": 22, "SELECT a FROM t UNION ALL": 25, "SELECT a FROM t UNION ALL a": 26, "SELECT a FROM t ALL SELECT a FROM t": 16, "SELECT a FROM t UNION ALL (SELECT a FROM t)": 26,
		"SELECT a FROM t ORDER a": 22, "SELECT a FROM t ORDER BY": 24, "SELECT a FROM t ORDER BY 1": 25, "SELECT a FROM t ORDER BY t.a": 26, "SELECT a FROM t ORDER BY a DESC DESC": 32, "SELECT a FROM t ORDER BY a DESC b": 32, "SELECT a FROM t ORDER BY a ASC": 27, "SELECT a FROM t ORDER BY a GROUP BY a": 27, "SELECT a FROM t ORDER BY a UNION ALL SELECT a FROM t": 27, "SELECT a FROM t ORDER BY a,": 27, "SELECT a FROM t BY a": 16,
		"SELECT a FROM t LIMIT": 21, "SELECT a FROM t LIMIT a": 22, "SELECT a FROM t LIMIT -1": 22, "SELECT a FROM t LIMIT '1'": 22, "SELECT a FROM t LIMIT (1)": 22, "SELECT a FROM t LIMIT 1 1": 24, "SELECT a FROM t LIMIT 1, 2": 23, "SELECT a FROM t LIMIT 1 ORDER BY a": 24, "SELECT a FROM t LIMIT 1 LIMIT 2": 24, "SELECT a FROM t LIMIT ALL": 22,
		"SELECT a FROM t -- b\n c": 22, "SELECT a FROM t)": 15, "SELECT (a FROM t": 10, "SELECT a FROM t UNION ALL SELECT b FROM u 'v'": 42,
	} {
		wantErr(t, text, place, api.ErrParse)
	}
}

// P11.1: the same of an expression, behind which the text ends.
func TestExprPlaces(t *testing.T) {
	for text, place := range map[string]int{
		"": 0, "\n": 1, "-- a\n": 5, "a b": 2, "a 1": 2, "1 a": 2, "a 'b'": 2, "a,": 1, "a, b": 1, "a AS b": 2, "a)": 1, "a = b)": 5, "*": 0, "a FROM t": 2, "SELECT a FROM t": 0,
		"(": 1, "()": 1, "(a": 2, "(a b)": 3, "(a, b)": 2, "((a)": 4, "(a))": 3, "a.": 2, "a.*": 2, "a.1": 2, "a.b.c": 3, "a.SUM": 2, ".a": 0, "SUM.a": 3, "'t'.a": 3,
		"OR a": 0, "a OR": 4, "a OR OR b": 5, "a AND": 5, "a AND OR b": 6, "NOT": 3, "a NOT b": 2, "a NOT NULL": 2, "a = NOT b": 4, "a + NOT b": 4, "- NOT a": 2,
		"a =": 3, "= a": 0, "a = = b": 4, "a == b": 3, "a < > b": 4, "a '=' b": 2, "a IS": 4, "a IS b": 5, "a IS TRUE": 5, "a IS NOT": 8, "a IS NOT b": 9, "a IS NOT NOT NULL": 9, "a IS 'NULL'": 5, "IS NULL": 0, "a IS NULL NULL": 10,
		"a +": 3, "+ a": 0, "a + + b": 4, "a *": 3, "a * / b": 4, "a - * b": 4, "-": 1, "- -": 3, "- + a": 2, "a % %": 4,
		"COUNT": 5, "COUNT a": 6, "COUNT *": 6, "COUNT(": 6, "COUNT()": 6, "COUNT(*": 7, "COUNT(* a)": 8, "COUNT(*)(": 8, "COUNT(a": 7, "COUNT(a, b)": 7, "COUNT(DISTINCT a)": 6, "COUNT(ALL a)": 6, "COUNT(**)": 7, "COUNT(*) *": 10,
		"SUM(*)": 4, "MIN(*)": 4, "MAX(*)": 4, "SUM()": 4, "SUM": 3, "SUM a": 4, "MIN(a": 5, "MAX(a b)": 6, "SUM(a))": 6, "COUNT '(' * ')'": 6, "sum(a)": 3, "a(b)": 1,
	} {
		wantExprErr(t, text, place, api.ErrParse)
		// none of these stand behind an expression in a Where, either
		wantErr(t, "SELECT a FROM t WHERE "+text, len("SELECT a FROM t WHERE ")+place, api.ErrParse)
	}
}

// P11.1: as many of each as may be, and one more; the grammar's own errors go first.
func TestTooMany(t *testing.T) {
	head, part := "SELECT a FROM t", "SELECT a FROM t"
	for _, x := range []struct {
		most int
		text func(n int) string
	}{
		{api.MaxParts, func(n int) string { return many(part, " UNION ALL ", n) }},
		{api.MaxItems, func(n int) string { return "SELECT " + many("a", ", ", n) + " FROM t" }},
		{api.MaxItems, func(n int) string { return "SELECT " + many("*", ", ", n) + " FROM t" }},
		{api.MaxItems, func(n int) string { return part + " UNION ALL SELECT " + many("1 AS b", ", ", n) + " FROM t" }},
		{api.MaxSources, func(n int) string { return head + strings.Repeat(" JOIN u ON TRUE", n-1) }},
		{api.MaxSources, func(n int) string { return head + strings.Repeat(" ANTI JOIN u AS v ON a = b", n-1) + " WHERE a" }},
		{api.MaxGroups, func(n int) string { return head + " GROUP BY " + many("a", ", ", n) }},
		{api.MaxGroups, func(n int) string { return head + " GROUP BY " + many("t.a", ", ", n) + " ORDER BY a" }},
		{api.MaxKeys, func(n int) string { return head + " ORDER BY " + many("a", ", ", n) }},
		{api.MaxKeys, func(n int) string { return head + " ORDER BY " + many("a DESC", ", ", n) + " LIMIT 1" }},
	} {
		for n := 1; n <= x.most; n++ {
			if q, place, e := parse.Parse(x.text(n)); e != api.OK || place != 0 || parse.Check(q) != api.OK || len(q.Parts) == 0 {
				t.Errorf("%s: %d, %d", x.text(n), place, e)
			}
		}
		for _, n := range []int{x.most + 1, x.most + 2, 200} {
			text := x.text(n)
			wantErr(t, text, 0, api.ErrLong)
			wantErr(t, text+" )", len(text)+1, api.ErrParse)
		}
	}
}

// P11.1: expressions as large and as deep as may be, and larger and deeper ones, wherever they stand.
func TestTooLarge(t *testing.T) {
	good := map[string]api.Expr{
		expr.Show(sized(api.MaxNodes)):                              sized(api.MaxNodes),
		strings.Repeat("- ", api.MaxDepth-1) + "a":                  deep(api.MaxDepth),
		strings.Repeat("(", 1000) + "a" + strings.Repeat(")", 1000): a,
	}
	for text, want := range good {
		wantExpr(t, text, want)
		wantQuery(t, "SELECT "+text+" FROM t", plain(want))
	}
	half := expr.Show(sized(256))
	for _, text := range []string{
		half + " AND " + half, strings.Repeat("- ", api.MaxDepth) + "a", strings.Repeat("NOT ", api.MaxDepth) + "a", many("a", " + ", api.MaxDepth+1), many("a", " OR ", api.MaxDepth+1),
		"a" + strings.Repeat(" IS NULL", api.MaxDepth), "a" + strings.Repeat(" = b", api.MaxDepth), strings.Repeat("-(", api.MaxDepth) + "a" + strings.Repeat(")", api.MaxDepth),
		strings.Repeat("a*(", api.MaxDepth) + "a" + strings.Repeat(")", api.MaxDepth), "SUM(" + strings.Repeat("- ", api.MaxDepth-1) + "a)",
		strings.Repeat("NOT ", 4000) + "a", many("a", " - ", 2000), "a" + strings.Repeat(" IS NULL", 2000), strings.Repeat("-(", 1000) + "a" + strings.Repeat(")", 1000),
	} {
		wantExprErr(t, text, 0, api.ErrLong)
		wantExprErr(t, text+" )", len(text)+1, api.ErrParse)
		wantErr(t, "SELECT "+text+" FROM t", 0, api.ErrLong)
		wantErr(t, "SELECT *, b, "+text+" AS c FROM t", 0, api.ErrLong)
		wantErr(t, "SELECT a FROM t WHERE "+text, 0, api.ErrLong)
		wantErr(t, "SELECT a FROM t JOIN u ON "+text+" JOIN u ON TRUE", 0, api.ErrLong)
	}
	for _, n := range []int{2, api.MaxDepth} {
		if _, _, e := parse.Expr(many("a", " + ", n)); e != api.OK {
			t.Errorf("%d levels: %d", n, e)
		}
	}
	most := strings.Repeat("(", 2047) + "a" + strings.Repeat(")", 2047) // MaxTokens with the end
	wantExpr(t, most, a)
	wantExprErr(t, most[1:], len(most)-2, api.ErrParse)
	wantExprErr(t, "("+most, 4096, api.ErrLong)
}

// P11.1: aggregates stand in items alone, and never within one another.
func TestAggregates(t *testing.T) {
	for _, text := range []string{"SUM(SUM(a))", "COUNT(COUNT(*))", "MIN(1 + MAX(a))", "MAX(NOT (a IS NULL OR COUNT(*) = 1))", "a + SUM(COUNT(a))", strings.Repeat("SUM(", 1000) + "a" + strings.Repeat(")", 1000)} {
		wantExprErr(t, text, 0, api.ErrLong)
		wantErr(t, "SELECT "+text+" FROM t", 0, api.ErrLong)
		wantErr(t, "SELECT "+text+" FROM t t", len("SELECT "+text+" FROM t "), api.ErrParse)
	}
	for _, text := range []string{"COUNT(*)", "COUNT(a)", "SUM(a)", "MIN(a)", "MAX(a)", "a = 1 AND NOT SUM(a) + 1 > b", "COUNT(*) IS NULL"} {
		if _, place, e := parse.Expr(text); e != api.OK || place != 0 {
			t.Errorf("Expr(%s): %d, %d", text, place, e)
		}
		if _, place, e := parse.Parse("SELECT " + text + ", " + text + " AS b FROM t GROUP BY a"); e != api.OK || place != 0 {
			t.Errorf("Parse of %s: %d, %d", text, place, e)
		}
		wantErr(t, "SELECT a FROM t WHERE "+text, 0, api.ErrLong)
		wantErr(t, "SELECT a FROM t JOIN u ON "+text, 0, api.ErrLong)
		wantErr(t, "SELECT a FROM t JOIN u ON TRUE LEFT JOIN u ON "+text+" WHERE TRUE", 0, api.ErrLong)
		wantErr(t, "SELECT a FROM t UNION ALL SELECT a FROM t WHERE "+text+" LIMIT 1", 0, api.ErrLong)
	}
}

// P11.1: names as long as may be, and such as are reserved elsewhere.
func TestNames(t *testing.T) {
	long := strings.Repeat("x", api.MaxName)
	q := api.Query{
		Parts: []api.Select{{Items: []api.Item{{E: of(long, long), As: long}}, From: []api.Source{{Table: long, As: "select"}}, Group: []api.Expr{of("asc", "desc")}}},
		Order: []api.Key{{Name: long, Down: true}, {Name: "limit"}}, Limit: -1,
	}
	wantQuery(t, "SELECT "+long+"."+long+" AS "+long+" FROM "+long+" AS select GROUP BY asc.desc ORDER BY "+long+" DESC, limit", q)
	for _, word := range append(lex.Keys(), "1", "'a'", "*", "(", ".") {
		for _, head := range []string{"SELECT a AS ", "SELECT a FROM ", "SELECT a FROM t AS ", "SELECT a FROM t JOIN ", "SELECT t.", "SELECT a FROM t GROUP BY ", "SELECT a FROM t GROUP BY t.", "SELECT a FROM t ORDER BY ", "SELECT a FROM t ORDER BY a, "} {
			wantErr(t, head+word, len(head), api.ErrParse)
			wantErr(t, head+word+" FROM t", len(head), api.ErrParse)
		}
	}
}

// P11.3: blanks and remarks between tokens change nothing; between others' letters there may be none.
func TestBlanks(t *testing.T) {
	tokens, _, _ := lex.All(fullText)
	for _, gap := range []string{" ", "\n", "\t\r\n ", "--\n", " -- SELECT ' ( !\n", "\n--\n--a\n"} {
		text := gap
		for _, x := range tokens {
			text += lex.Show([]api.Token{x}) + " " + gap
		}
		wantQuery(t, text, full())
		wantQuery(t, strings.TrimRight(text, "\n")+" -- the end", full())
	}
	wantQuery(t, "SELECT*FROM t", query(api.Select{Items: []api.Item{star()}, From: from("t")}))
	wantQuery(t, "SELECT'a',a FROM t--;", query(api.Select{Items: []api.Item{item(lit(value.Text("a"))), item(a)}, From: from("t")}))
	wantExpr(t, "a--b\n-- c\n+--\n1", op(api.OpAdd, a, one))
	wantExpr(t, "(a)OR(b)", op(api.OpOr, a, b))
}

// R3: no two answers share memory, nor do two lists of one.
func TestApart(t *testing.T) {
	first, _, _ := parse.Parse(fullText)
	second, _, _ := parse.Parse(fullText)
	spoil(first)
	if !sameQuery(second, full()) {
		t.Errorf("memory is shared: %+v", second)
	}
	wantQuery(t, fullText, full())
	x, _, _ := parse.Expr("a + a = a + a")
	spoilList(x.L[0].L)
	if !sameExpr(x.L[1], op(api.OpAdd, a, a)) {
		t.Errorf("memory is shared: %+v", x)
	}
	spoilList(x.L)
	wantExpr(t, "a + a = a + a", op(api.OpEq, op(api.OpAdd, a, a), op(api.OpAdd, a, a)))
}

// spoil changes all that a query's lists hold, and the room behind their ends.
func spoil(q api.Query) {
	for _, s := range q.Parts {
		for _, i := range s.Items {
			spoilList(i.E.L)
		}
		for _, x := range s.From {
			spoilList(x.On.L)
		}
		spoilList(s.Where.L)
		spoilList(s.Group)
		clear(s.Items[:cap(s.Items)])
		clear(s.From[:cap(s.From)])
	}
	clear(q.Parts[:cap(q.Parts)])
	clear(q.Order[:cap(q.Order)])
}

func spoilList(l []api.Expr) {
	for _, e := range l {
		spoilList(e.L)
	}
	spare := l[:cap(l)]
	for i := range spare {
		spare[i] = api.Expr{Kind: 77, N: i}
	}
}
