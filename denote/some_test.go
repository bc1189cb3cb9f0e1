package denote_test

import (
	"strconv"
	"strings"
	"testing"

	"commissary/api"
	"commissary/bind"
	"commissary/denote"
	"commissary/parse"
	"commissary/value"
)

// Expressions and nodes are written out, so that the program's own are held against them.
func lit(v api.Value) api.Expr          { return api.Expr{Kind: api.ExprLit, V: v} }
func op(n int, l ...api.Expr) api.Expr  { return api.Expr{Kind: api.ExprOp, N: n, L: l} }
func agg(n int, l ...api.Expr) api.Expr { return api.Expr{Kind: api.ExprAgg, N: n, L: l} }

// at is a column of which nothing counts but its place.
func at(place int) api.Expr { return api.Expr{Kind: api.ExprCol, Col: "x", N: place} }

const null, yes, num, word = api.KindNull, api.KindBool, api.KindInt, api.KindText

var (
	none  = lit(value.Null())
	truth = lit(value.Bool(true))
	zero  = lit(value.Int(0))
	one   = lit(value.Int(1))
	rows  = agg(api.AggRows)
	// errs errs of a row whose first value is 0; it is true, if that is 1 to 9.
	errs = op(api.OpGt, op(api.OpDiv, lit(value.Int(9)), at(0)), zero)
)

// cols is columns of types, called c0, c1 and so on.
func cols(types ...int) []api.Column {
	var l []api.Column
	for i, kind := range types {
		l = append(l, api.Column{Name: "c" + strconv.Itoa(i), Type: kind})
	}
	return l
}

func ints(n int) []int {
	var l []int
	for range n {
		l = append(l, num)
	}
	return l
}

func scan(table string, types ...int) api.Node {
	return api.Node{Op: api.NodeScan, Table: table, Cols: cols(types...)}
}

func filter(e api.Expr, x api.Node) api.Node {
	return api.Node{Op: api.NodeFilter, E: e, L: []api.Node{x}}
}

// project tells ints.
func project(x api.Node, es ...api.Expr) api.Node {
	return api.Node{Op: api.NodeProject, Cols: cols(ints(len(es))...), Es: es, L: []api.Node{x}}
}

func join(kind int, e api.Expr, x ...api.Node) api.Node {
	return api.Node{Op: api.NodeJoin, Join: kind, E: e, L: x}
}

// group tells aggregates that are ints.
func group(by []int, x api.Node, es ...api.Expr) api.Node {
	return api.Node{Op: api.NodeGroup, By: by, Cols: cols(ints(len(es))...), Es: es, L: []api.Node{x}}
}

func distinct(x api.Node) api.Node     { return api.Node{Op: api.NodeDistinct, L: []api.Node{x}} }
func union(x ...api.Node) api.Node     { return api.Node{Op: api.NodeUnion, L: x} }
func limit(n int, x api.Node) api.Node { return api.Node{Op: api.NodeLimit, N: n, L: []api.Node{x}} }

// order is a sort by places, those below 0 being turned round: -1 is place 0, going down.
func order(x api.Node, by ...int) api.Node {
	n := api.Node{Op: api.NodeSort, L: []api.Node{x}}
	for _, place := range by {
		down := place < 0
		if down {
			place = -1 - place
		}
		n.By, n.Down = append(n.By, place), append(n.Down, down)
	}
	return n
}

// table is a table of ints, whose rows stand in a text: "1 2, _ 3" is two rows, _ being null.
func table(name string, wide int, text string) api.Table {
	return api.Table{Name: name, Cols: cols(ints(wide)...), Rows: values(text)}
}

// values is rows of ints that stand in a text.
func values(text string) [][]api.Value {
	var l [][]api.Value
	if text == "" {
		return nil
	}
	for _, words := range strings.Split(text, ", ") {
		var r []api.Value
		for _, word := range strings.Fields(words) {
			if word == "_" {
				r = append(r, value.Null())
				continue
			}
			n, _ := strconv.Atoi(word)
			r = append(r, value.Int(n))
		}
		l = append(l, r)
	}
	return l
}

// text is rows, as values reads them, but that bools and texts stand there as in a query.
func text(l [][]api.Value) string {
	var all []string
	for _, r := range l {
		var words []string
		for _, v := range r {
			words = append(words, strings.ReplaceAll(value.Show(v), "NULL", "_"))
		}
		all = append(all, strings.Join(words, " "))
	}
	return strings.Join(all, ", ")
}

// wantRows is that n tells rows, over a catalog.
func wantRows(t *testing.T, n api.Node, want string, c ...api.Table) {
	t.Helper()
	got, no := denote.Rows(n, c)
	if no != api.OK || text(got) != want {
		t.Errorf("%d, %s, not %s", no, text(got), want)
	}
	if no := denote.Fits(n, c); no != api.OK {
		t.Errorf("Fits: %d", no)
	}
}

// wantNo is that Rows refuses n, and tells nothing beside that.
func wantNo(t *testing.T, n api.Node, want api.Errno, c ...api.Table) {
	t.Helper()
	if got, no := denote.Rows(n, c); no != want || len(got) != 0 {
		t.Errorf("%d, not %d, %d rows", no, want, len(got))
	}
}

// bound is the tree of a query's text.
func bound(t *testing.T, text string, c ...api.Table) api.Node {
	t.Helper()
	q, _, noQuery := parse.Parse(text)
	n, no := bind.Bind(q, c)
	if noQuery != api.OK || no != api.OK {
		t.Fatalf("%s: %d, %d", text, noQuery, no)
	}
	return n
}

// many is a table of n rows of an int, from 1 on.
func many(name string, n int) api.Table {
	t := api.Table{Name: name, Cols: cols(num)}
	for i := range n {
		t.Rows = append(t.Rows, []api.Value{value.Int(i + 1)})
	}
	return t
}
