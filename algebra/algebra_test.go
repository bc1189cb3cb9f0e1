package algebra_test

import (
	"math/rand"
	"reflect"
	"slices"
	"strings"
	"testing"

	"commissary/algebra"
	"commissary/api"
)

// checkTold is that n is told of as it should be.
func checkTold(t *testing.T, x told) {
	t.Helper()
	if no := algebra.Check(x.n); no != api.OK {
		t.Errorf("%s: Check %d", x.text, no)
	}
	if got := algebra.Columns(x.n); !slices.Equal(got, x.cols) {
		t.Errorf("%s: Columns %v, not %v", x.text, got, x.cols)
	}
	if got := algebra.Size(x.n); got != x.size {
		t.Errorf("%s: Size %d, not %d", x.text, got, x.size)
	}
	if got := strings.Join(algebra.Tables(x.n), " "); got != x.tables {
		t.Errorf("%s: Tables %s, not %s", x.text, got, x.tables)
	}
	if got := algebra.Show(x.n); got != x.text {
		t.Errorf("Show %s, not %s", got, x.text)
	}
}

// P15.1, P15.2: what is told of trees that may be.
func TestGood(t *testing.T) {
	for _, x := range good() {
		checkTold(t, x)
	}
}

// P15.1, P15.2: a tree that may not be is refused, and tells nothing.
func TestBad(t *testing.T) {
	for _, x := range bad() {
		if no := algebra.Check(x.n); no != api.ErrTree {
			t.Errorf("%s: Check %d", x.why, no)
		}
		if got := algebra.Columns(x.n); len(got) != 0 {
			t.Errorf("%s: Columns %v", x.why, got)
		}
		if got := algebra.Size(x.n); got != 0 {
			t.Errorf("%s: Size %d", x.why, got)
		}
		if got := algebra.Show(x.n); got != "" {
			t.Errorf("%s: Show %s", x.why, got)
		}
	}
}

// P15.1: how many nodes there may be, however they stand.
func TestSize(t *testing.T) {
	for nodes := 1; nodes <= 2*api.MaxTree; nodes++ {
		for i, n := range []api.Node{chain(nodes), bush(nodes), row(max(nodes, 2))} {
			if i == 2 && nodes < 2 {
				continue
			}
			want, no := nodes, api.OK
			if nodes > api.MaxTree {
				want, no = 0, api.ErrTree
			}
			if got := algebra.Size(n); got != want || algebra.Check(n) != no {
				t.Errorf("%d nodes, %d: Size %d", nodes, i, got)
			}
		}
	}
}

// P15.1: of a table of a union the columns tell that may be null where the first one's are not, alone.
func TestUnionTypes(t *testing.T) {
	of := func(kind int) api.Node { return project(cols("", kind), []api.Expr{ofKind(kind)}, t3()) }
	for a := range 4 {
		for b := range 4 {
			for c := range 4 {
				n := union(of(a), of(b), of(c))
				may := (b == a || b == null) && (c == a || c == null)
				if (algebra.Check(n) == api.OK) != may {
					t.Errorf("a union of types %d, %d, %d: %d", a, b, c, algebra.Check(n))
				}
				if may && algebra.Columns(n)[0].Type != a {
					t.Errorf("a union of types %d, %d, %d tells %v", a, b, c, algebra.Columns(n))
				}
			}
		}
	}
}

// P15.1: places that groups and sorts are by, of a part that tells three columns.
func TestPlaces(t *testing.T) {
	for a := -1; a < 4; a++ {
		for b := -1; b < 4; b++ {
			within := 0 <= min(a, b) && max(a, b) < 3
			if got := algebra.Check(group([]int{a, b}, nil, nil, t3())) == api.OK; got != (within && a < b) {
				t.Errorf("a group by %d, %d: %t", a, b, got)
			}
			if got := algebra.Check(order([]int{a, b}, make([]bool, 2), t3())) == api.OK; got != within {
				t.Errorf("a sort by %d, %d: %t", a, b, got)
			}
		}
	}
}

// P15.1: which columns conditions and expressions have, by each place.
func TestPlacesOfExprs(t *testing.T) {
	for n := range api.MaxCols {
		e := op(api.OpNull, place(n))
		ask := func(why string, x api.Node, may bool) {
			t.Helper()
			if (algebra.Check(x) == api.OK) != may {
				t.Errorf("%s of place %d: %d", why, n, algebra.Check(x))
			}
		}
		ask("a filter", filter(e, t3()), n < 3)
		ask("a project", project(cols("", yes), []api.Expr{e}, t3()), n < 3)
		ask("a group", group(nil, cols("", num), []api.Expr{agg(api.AggCount, e)}, t3()), n < 3)
		for kind := api.JoinInner; kind <= api.JoinAnti; kind++ {
			ask("a join", join(kind, e, t3(), u2()), n < 5)
		}
	}
}

// P15.1: tables stand from the left, each as often, of trees that may not be, too.
func TestTables(t *testing.T) {
	odd := api.Node{Op: api.NodeScan, Table: "of a b", L: []api.Node{scan("in"), distinct(scan("")), {Op: 99, Table: "no scan", L: []api.Node{t3()}}}}
	for _, x := range []struct {
		n    api.Node
		want []string
	}{
		{api.Node{}, nil},
		{api.Node{Table: "t"}, nil},
		{distinct(), nil},
		{limit(-1, filter(one, scan("SELECT"))), []string{"SELECT"}},
		{api.Node{Op: api.NodeScan}, []string{""}},
		{api.Node{Op: api.NodeFilter, Table: "f", L: []api.Node{t3()}}, []string{"t"}},
		{odd, []string{"of a b", "in", "", "t"}},
		{join(9, none, join(8, none, scan("a"), scan("b")), scan("c"), scan("a"), scan("b")), []string{"a", "b", "c", "a", "b"}},
		{union(distinct(union(scan("z"), scan("y"))), scan("x"), limit(0, distinct(scan("w")))), []string{"z", "y", "x", "w"}},
		{row(1 << 12), slices.Repeat([]string{"t"}, 1<<12-1)},
		{chain(1 << 12), []string{"t"}},
		{shared(11), slices.Repeat([]string{"t"}, 1<<10)},
	} {
		if got := algebra.Tables(x.n); !slices.Equal(got, x.want) {
			t.Errorf("Tables %q, not %q", got, x.want)
		}
	}
}

// full is a node that has something of all that one may have.
func full() api.Node {
	return api.Node{
		Op: 3, Table: "t", Cols: cols("t", num, word), E: op(api.OpEq, place(1), one), Es: []api.Expr{rows, place(0)}, By: []int{0, 1}, Down: []bool{true, false},
		Join: 2, N: 7, L: []api.Node{t3(), filter(truth, u2())},
	}
}

// others is full() and what differs from it, and from one another, in one part.
func others() []api.Node {
	l := []api.Node{full()}
	for _, do := range []func(n *api.Node){
		func(n *api.Node) { n.Op = 4 },
		func(n *api.Node) { n.Table = "T" },
		func(n *api.Node) { n.Cols[0].Tab = "u" },
		func(n *api.Node) { n.Cols[1].Name = "c" },
		func(n *api.Node) { n.Cols[1].Type = yes },
		func(n *api.Node) { n.Cols = n.Cols[:1] },
		func(n *api.Node) { n.Cols = n.Cols[1:] },
		func(n *api.Node) { n.Cols = append(n.Cols, api.Column{}) },
		func(n *api.Node) { n.Cols = nil },
		func(n *api.Node) { n.E.N = api.OpNe },
		func(n *api.Node) { n.E.L[0].Tab = "" },
		func(n *api.Node) { n.E.L[1].V.N = 2 },
		func(n *api.Node) { n.E = api.Expr{} },
		func(n *api.Node) { n.Es[0].N = api.AggSum },
		func(n *api.Node) { n.Es[1].N = 2 },
		func(n *api.Node) { n.Es = n.Es[:1] },
		func(n *api.Node) { n.Es = append(n.Es, api.Expr{}) },
		func(n *api.Node) { n.Es = nil },
		func(n *api.Node) { n.By[0] = 1 },
		func(n *api.Node) { n.By[1] = 0 },
		func(n *api.Node) { n.By = n.By[:1] },
		func(n *api.Node) { n.By = append(n.By, 0) },
		func(n *api.Node) { n.By = nil },
		func(n *api.Node) { n.Down[0] = false },
		func(n *api.Node) { n.Down[1] = true },
		func(n *api.Node) { n.Down = n.Down[:1] },
		func(n *api.Node) { n.Down = append(n.Down, false) },
		func(n *api.Node) { n.Down = nil },
		func(n *api.Node) { n.Join = 1 },
		func(n *api.Node) { n.N = -7 },
		func(n *api.Node) { n.L[0].Table = "u" },
		func(n *api.Node) { n.L[1].E = none },
		func(n *api.Node) { n.L[1].L[0].N = 1 },
		func(n *api.Node) { n.L[1].L = nil },
		func(n *api.Node) { n.L[0], n.L[1] = n.L[1], n.L[0] },
		func(n *api.Node) { n.L = n.L[:1] },
		func(n *api.Node) { n.L = append(n.L, api.Node{}) },
		func(n *api.Node) { n.L = nil },
	} {
		n := full()
		do(&n)
		l = append(l, n)
	}
	return l
}

// P15.1: trees are the same if all their parts are.
func TestSame(t *testing.T) {
	for i, x := range others() {
		for k, y := range others() {
			for _, c := range [][2]api.Node{{x, y}, {distinct(x), distinct(y)}, {union(t3(), x), union(t3(), y)}} {
				if got := algebra.Same(c[0], c[1]); got != (i == k) {
					t.Errorf("Same of changes %d, %d: %t", i, k, got)
				}
			}
			if algebra.Same(distinct(x), y) || algebra.Same(x, limit(0, y)) {
				t.Errorf("changes %d, %d: below another node", i, k)
			}
		}
	}
	empty := api.Node{Cols: []api.Column{}, E: api.Expr{L: []api.Expr{}}, Es: []api.Expr{}, By: []int{}, Down: []bool{}, L: []api.Node{}}
	if !algebra.Same(empty, api.Node{}) || !algebra.Same(api.Node{}, empty) || !algebra.Same(distinct(empty), distinct(api.Node{})) {
		t.Error("nil and empty lists")
	}
	if algebra.Same(chain(1<<12), chain(1<<12+1)) || !algebra.Same(chain(1<<12), chain(1<<12)) {
		t.Error("long chains")
	}
}

// P15.1: trees that may be are the same if they are written alike.
func TestSameGood(t *testing.T) {
	for i, x := range good() {
		for k, y := range good() {
			want := i == k || x.text == y.text && slices.Equal(x.cols, y.cols)
			if got := algebra.Same(x.n, y.n); got != want {
				t.Errorf("%s, %s: %t", x.text, y.text, got)
			}
		}
	}
}

// P15.1: a scan of a table, by a name, whatever these are.
func TestScan(t *testing.T) {
	table := api.Table{Name: "t", Cols: []api.Column{{Name: "a", Type: num}, {Name: "b", Type: word}}, Rows: [][]api.Value{{{Kind: num, N: 1}, {}}}}
	for _, as := range []string{"t", "u", "", "SELECT", "a b"} {
		want := api.Node{Op: api.NodeScan, Table: "t", Cols: []api.Column{{Tab: as, Name: "a", Type: num}, {Tab: as, Name: "b", Type: word}}}
		if got := algebra.Scan(table, as); !reflect.DeepEqual(got, want) {
			t.Errorf("Scan by %s: %+v", as, got)
		}
		if got := algebra.Scan(table, as); algebra.Check(got) != api.OK || algebra.Show(got) != "SCAN t" {
			t.Errorf("Scan by %s: %d", as, algebra.Check(got))
		}
	}
	odd := api.Table{Name: "a b", Cols: []api.Column{{Tab: "x", Name: "SELECT", Type: 9}}}
	if got := algebra.Scan(odd, "u"); !algebra.Same(got, api.Node{Op: api.NodeScan, Table: "a b", Cols: []api.Column{{Tab: "u", Name: "SELECT", Type: 9}}}) {
		t.Errorf("Scan of what may not be: %+v", got)
	}
	if got := algebra.Scan(api.Table{}, ""); !algebra.Same(got, api.Node{Op: api.NodeScan}) || algebra.Check(got) != api.ErrTree {
		t.Errorf("Scan of nothing: %+v", got)
	}
}

// P15.2: the example of the chapter, and each operator and aggregate.
func TestShow(t *testing.T) {
	check := func(n api.Node, want string) {
		t.Helper()
		if got := algebra.Show(n); got != want {
			t.Errorf("Show %s, not %s", got, want)
		}
	}
	check(filter(op(api.OpLt, place(0), api.Expr{Kind: api.ExprLit, V: api.Value{Kind: num, N: 5}}), scan("t", num)), "FILTER((#0 < 5), SCAN t)")
	ints := scan("i", num, num)
	for n, want := range map[int]string{api.OpAdd: "+", api.OpSub: "-", api.OpMul: "*", api.OpDiv: "/", api.OpMod: "%"} {
		check(project(cols("", num), []api.Expr{op(n, place(1), place(0))}, ints), "PROJECT((#1 "+want+" #0); SCAN i)")
	}
	for n, want := range map[int]string{api.OpEq: "=", api.OpNe: "<>", api.OpLt: "<", api.OpLe: "<=", api.OpGt: ">", api.OpGe: ">="} {
		check(filter(op(n, place(1), place(0)), ints), "FILTER((#1 "+want+" #0), SCAN i)")
	}
	bools := scan("b", yes, yes)
	for n, want := range map[int]string{api.OpAnd: "AND", api.OpOr: "OR"} {
		check(filter(op(n, place(0), place(1)), bools), "FILTER((#0 "+want+" #1), SCAN b)")
	}
	for n, want := range map[int]string{api.OpNot: "(NOT #1)", api.OpNull: "(#1 IS NULL)", api.OpThere: "(#1 IS NOT NULL)"} {
		check(filter(op(n, place(1)), bools), "FILTER("+want+", SCAN b)")
	}
	for n, want := range map[int]string{api.AggCount: "COUNT", api.AggSum: "SUM", api.AggMin: "MIN", api.AggMax: "MAX"} {
		check(group(nil, cols("", num), []api.Expr{agg(n, place(1))}, ints), "GROUP(; "+want+"(#1); SCAN i)")
	}
	for n := range api.MaxCols { // whatever a column is called
		e := api.Expr{Kind: api.ExprCol, Tab: "a", Col: "b", N: n}
		check(filter(e, scan("w", wide(yes, api.MaxCols)...)), "FILTER(#"+strings.Split(numbers(n+1), ", ")[n]+", SCAN w)")
	}
	a, b := place(0), place(1) // literals that are written like parts
	a.Col, b.Col = "b", "a"
	check(filter(op(api.OpEq, op(api.OpEq, op(api.OpEq, text, text), a), op(api.OpNot, b)), bools), "FILTER(((('it''s a' = 'it''s a') = #0) = (NOT #1)), SCAN b)")
}

// P15.2: the longest texts of expressions, and many of them, are told soon.
func TestShowLong(t *testing.T) {
	long := api.Expr{Kind: api.ExprLit, V: api.Value{Kind: word, S: strings.Repeat("'", api.MaxText)}}
	e := op(api.OpEq, long, long)
	for range 7 {
		e = op(api.OpAnd, e, e)
	}
	n, want := scan("t", num), "SCAN t"
	text := strings.Repeat("'", 2*api.MaxText+2)
	text = "(" + text + " = " + text + ")"
	for range 7 {
		text = "(" + text + " AND " + text + ")"
	}
	es := slices.Repeat([]api.Expr{e}, api.MaxCols)
	for range 8 {
		n = project(cols("", wide(yes, api.MaxCols)...), es, n)
		want = "PROJECT(" + text + strings.Repeat(", "+text, api.MaxCols-1) + "; " + want + ")"
	}
	if got := algebra.Show(n); got != want {
		t.Errorf("%d bytes, not %d", len(got), len(want))
	}
}

// P15.3: where a part stands another one may that tells the same columns, and the whole tells the same.
func TestWhateverParts(t *testing.T) {
	in := func(x, y api.Node) []api.Node {
		return []api.Node{
			filter(place(0), x), join(api.JoinInner, place(0), x, y), join(api.JoinLeft, place(0), y, x), join(api.JoinSemi, place(3), x, y), join(api.JoinAnti, place(3), y, x),
			project(cols("v", word, yes), []api.Expr{place(2), place(0)}, x), group([]int{1, 2}, cols("", yes), []api.Expr{agg(api.AggMax, place(0))}, x),
			distinct(x), union(x, y), union(y, x, x), order([]int{2}, []bool{true}, x), limit(3, x),
			filter(place(2), y), group([]int{2}, nil, nil, x), project(cols("", word), []api.Expr{place(1)}, y),
		}
	}
	x := cols("t", yes, num, word)
	es := []api.Expr{place(0), place(1), place(2)}
	alike := []api.Node{
		t3(), api.Node{Op: api.NodeScan, Table: "u", Cols: x}, filter(truth, t3()), project(x, es, t3()), project(x, []api.Expr{truth, one, text}, u2()),
		join(api.JoinInner, none, scan("t", yes), api.Node{Op: api.NodeScan, Table: "u", Cols: x[1:]}), join(api.JoinLeft, none, api.Node{Op: api.NodeScan, Table: "u", Cols: x[:2]}, api.Node{Op: api.NodeScan, Table: "u", Cols: x[2:]}),
		join(api.JoinAnti, none, t3(), u2()), group([]int{0, 1}, x[2:], []api.Expr{agg(api.AggMin, place(2))}, t3()), group(nil, x, []api.Expr{agg(api.AggMax, truth), rows, agg(api.AggMin, text)}, u2()),
		distinct(t3()), union(t3(), scan("z", yes, num, word)), union(t3(), nulls(3)), order(nil, nil, t3()), limit(0, t3()), chain(20),
	}
	for i, a := range alike {
		if !slices.Equal(algebra.Columns(a), x) {
			t.Fatalf("part %d tells %v", i, algebra.Columns(a))
		}
		for _, b := range alike {
			for k, n := range in(a, b) {
				want := in(t3(), t3())[k]
				if algebra.Check(n) != algebra.Check(want) || !slices.Equal(algebra.Columns(n), algebra.Columns(want)) {
					t.Errorf("%s: %d, %v", algebra.Show(n), algebra.Check(n), algebra.Columns(n))
				}
			}
		}
	}
}

// drawn is a tree that may be, drawn with what is told of it.
func drawn(r *rand.Rand, levels int) told {
	kinds := make([]int, 1+r.Intn(3))
	for i := range kinds {
		kinds[i] = yes + r.Intn(3)
	}
	if levels == 0 || r.Intn(6) == 0 {
		name := []string{"t", "u", "v"}[r.Intn(3)]
		return told{scan(name, kinds...), cols(name, kinds...), "SCAN " + name, 1, name}
	}
	x := drawn(r, levels-1)
	at := r.Intn(len(x.cols))
	as := []api.Column{{Name: "p", Type: x.cols[at].Type}, {Name: "q", Type: yes}}
	at0 := numbers(at + 1)[strings.LastIndexByte(numbers(at+1), ' ')+1:]
	one := func(n api.Node, cols []api.Column, text string) told {
		return told{n, cols, text + x.text + ")", 1 + x.size, x.tables}
	}
	switch r.Intn(8) {
	case 0:
		return one(filter(op(api.OpThere, place(at)), x.n), x.cols, "FILTER((#"+at0+" IS NOT NULL), ")
	case 1:
		return one(project(as, []api.Expr{place(at), op(api.OpNull, place(0))}, x.n), as, "PROJECT(#"+at0+", (#0 IS NULL); ")
	case 2:
		return one(group([]int{at}, as[:1], []api.Expr{agg(api.AggMin, place(at))}, x.n), []api.Column{x.cols[at], as[0]}, "GROUP("+at0+"; MIN(#"+at0+"); ")
	case 3:
		return one(distinct(x.n), x.cols, "DISTINCT(")
	case 4:
		return one(order([]int{at, 0}, []bool{true, false}, x.n), x.cols, "SORT("+at0+"-, 0; ")
	case 5:
		return one(limit(at, x.n), x.cols, "LIMIT("+at0+"; ")
	case 6:
		return told{union(x.n, x.n), x.cols, "UNION(" + x.text + ", " + x.text + ")", 1 + 2*x.size, x.tables + " " + x.tables}
	}
	y := drawn(r, levels-1)
	kind := api.JoinInner + r.Intn(4)
	all := x.cols
	if kind <= api.JoinLeft {
		all = slices.Concat(x.cols, y.cols)
	}
	return told{join(kind, op(api.OpEq, place(at), place(at)), x.n, y.n), all,
		[]string{"", "JOIN", "LEFT", "SEMI", "ANTI"}[kind] + "((#" + at0 + " = #" + at0 + "); " + x.text + ", " + y.text + ")", 1 + x.size + y.size, x.tables + " " + y.tables}
}

// P15.1, P15.2, P15.3: drawn trees, while these have not too many nodes and columns.
func TestDrawn(t *testing.T) {
	r := rand.New(rand.NewSource(1))
	many, few := 0, 0
	for range 20000 {
		x := drawn(r, r.Intn(14))
		if x.size > api.MaxTree {
			many++
			if algebra.Check(x.n) != api.ErrTree || algebra.Columns(x.n) != nil || algebra.Size(x.n) != 0 || algebra.Show(x.n) != "" {
				t.Fatalf("%d nodes are told", x.size)
			}
			continue
		}
		if len(x.cols) <= api.MaxCols {
			few++
			checkTold(t, x)
		}
	}
	if many < 100 || few < 10000 {
		t.Error("of one sort too few are drawn:", many, few)
	}
}

// spare is n with room behind each list, and something there.
func spare(n api.Node) api.Node {
	n.Cols = append(n.Cols, api.Column{Name: "behind"})[:len(n.Cols)]
	n.Es = append(n.Es, one)[:len(n.Es)]
	n.By = append(n.By, 9)[:len(n.By)]
	n.Down = append(n.Down, true)[:len(n.Down)]
	l := make([]api.Node, 0, len(n.L)+1)
	for _, part := range n.L {
		l = append(l, spare(part))
	}
	n.L = append(l, t3())[:len(n.L)]
	return n
}

// all is everything of a tree, with the room behind the ends of its lists, in memory of its own.
func all(n api.Node) api.Node {
	n.Cols = slices.Clone(n.Cols[:cap(n.Cols)])
	n.Es = slices.Clone(n.Es[:cap(n.Es)])
	n.By = slices.Clone(n.By[:cap(n.By)])
	n.Down = slices.Clone(n.Down[:cap(n.Down)])
	var l []api.Node
	for _, part := range n.L[:cap(n.L)] {
		l = append(l, all(part))
	}
	n.L = l
	return n
}

// R3: what is handed in stays as it is, and the room behind it; what is answered shares nothing with it.
func TestUnchanged(t *testing.T) {
	for _, x := range append(good(), told{n: full()}) {
		n := spare(x.n)
		want := all(n)
		algebra.Check(n)
		algebra.Size(n)
		algebra.Same(n, n)
		algebra.Show(n)
		columns, tables := algebra.Columns(n), algebra.Tables(n)
		clear(columns[:cap(columns)])
		clear(tables[:cap(tables)])
		if !reflect.DeepEqual(all(n), want) {
			t.Errorf("%s: changed", x.text)
		}
		if got := algebra.Columns(n); !slices.Equal(got, x.cols) {
			t.Errorf("%s: Columns %v once they are changed", x.text, got)
		}
	}
	table := api.Table{Name: "t", Cols: cols("x", num, word)}
	n := algebra.Scan(table, "u")
	clear(n.Cols[:cap(n.Cols)])
	if !slices.Equal(table.Cols, cols("x", num, word)) {
		t.Error("a table is changed by its scan")
	}
}
