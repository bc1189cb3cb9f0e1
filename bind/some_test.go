package bind_test

import (
	"strconv"
	"strings"
	"testing"

	"commissary/api"
	"commissary/parse"
	"commissary/value"
)

// Expressions and nodes are written out, so that the program's own are held against them.
func lit(v api.Value) api.Expr          { return api.Expr{Kind: api.ExprLit, V: v} }
func op(n int, l ...api.Expr) api.Expr  { return api.Expr{Kind: api.ExprOp, N: n, L: l} }
func agg(n int, l ...api.Expr) api.Expr { return api.Expr{Kind: api.ExprAgg, N: n, L: l} }
func col(tab, name string, place int) api.Expr {
	return api.Expr{Kind: api.ExprCol, Tab: tab, Col: name, N: place}
}

const null, yes, num, word = api.KindNull, api.KindBool, api.KindInt, api.KindText

var (
	one  = lit(value.Int(1))
	rows = agg(api.AggRows)
)

// named is columns without a table's name.
func named(l ...api.Column) []api.Column { return l }

func of(tab, name string, kind int) api.Column {
	return api.Column{Tab: tab, Name: name, Type: kind}
}

func scan(table string, cols ...api.Column) api.Node {
	return api.Node{Op: api.NodeScan, Table: table, Cols: cols}
}

func filter(e api.Expr, x api.Node) api.Node {
	return api.Node{Op: api.NodeFilter, E: e, L: []api.Node{x}}
}

func project(as []api.Column, es []api.Expr, x api.Node) api.Node {
	return api.Node{Op: api.NodeProject, Cols: as, Es: es, L: []api.Node{x}}
}

func join(kind int, e api.Expr, x ...api.Node) api.Node {
	return api.Node{Op: api.NodeJoin, Join: kind, E: e, L: x}
}

func group(by []int, as []api.Column, es []api.Expr, x api.Node) api.Node {
	return api.Node{Op: api.NodeGroup, By: by, Cols: as, Es: es, L: []api.Node{x}}
}

func distinct(x api.Node) api.Node     { return api.Node{Op: api.NodeDistinct, L: []api.Node{x}} }
func union(x ...api.Node) api.Node     { return api.Node{Op: api.NodeUnion, L: x} }
func limit(n int, x api.Node) api.Node { return api.Node{Op: api.NodeLimit, N: n, L: []api.Node{x}} }

func order(by []int, down []bool, x api.Node) api.Node {
	return api.Node{Op: api.NodeSort, By: by, Down: down, L: []api.Node{x}}
}

// t3 is the scan of t by a name, u2 that of u.
func t3(as string) api.Node {
	return scan("t", of(as, "a", num), of(as, "b", word), of(as, "z", yes))
}
func u2(as string) api.Node { return scan("u", of(as, "a", num), of(as, "c", num)) }

func table(name string, cols ...api.Column) api.Table {
	return api.Table{Name: name, Cols: cols}
}

// wide is a table of n ints, called c0, c1 and so on.
func wide(name string, n int) api.Table {
	t := table(name)
	for i := range n {
		t.Cols = append(t.Cols, of("", "c"+strconv.Itoa(i), num))
	}
	return t
}

// tables is a catalog of t, u, some that are wide, and one whose column goes by the name of aggregates.
func tables() []api.Table {
	t := table("t", of("", "a", num), of("", "b", word), of("", "z", yes))
	t.Rows = [][]api.Value{{value.Int(5), value.Text("x"), value.Null()}, {value.Null(), value.Null(), value.Bool(true)}}
	u := table("u", of("", "a", num), of("", "c", num))
	return []api.Table{t, u, wide("w", 16), wide("x", 16), wide("y", 15), wide("one", 1), table("g", of("", "agg", word), of("", "n", num))}
}

// query is what a text says.
func query(t *testing.T, text string) api.Query {
	t.Helper()
	q, _, no := parse.Parse(text)
	if no != api.OK {
		t.Fatalf("%s: %d", text, no)
	}
	return q
}

// list is n texts made of format, in which % is a number from 0 on, with a text between.
func list(n int, format, between string) string {
	var l []string
	for i := range n {
		l = append(l, strings.ReplaceAll(format, "%", strconv.Itoa(i)))
	}
	return strings.Join(l, between)
}
