package algebra

import (
	"strconv"
	"strings"

	"commissary/api"
	"commissary/expr"
)

// joins is what joins are called.
var joins = [...]string{api.JoinInner: "JOIN", api.JoinLeft: "LEFT", api.JoinSemi: "SEMI", api.JoinAnti: "ANTI"}

// Show is the text of n.
func Show(n api.Node) string {
	if Check(n) != api.OK {
		return ""
	}
	return show(n)
}

func show(n api.Node) string {
	parts := list(n.L, show)
	switch n.Op {
	case api.NodeScan:
		return "SCAN " + n.Table
	case api.NodeFilter:
		return "FILTER(" + showExpr(n.E) + ", " + parts + ")"
	case api.NodeProject:
		return "PROJECT(" + list(n.Es, showExpr) + "; " + parts + ")"
	case api.NodeJoin:
		return joins[n.Join] + "(" + showExpr(n.E) + "; " + parts + ")"
	case api.NodeGroup:
		return "GROUP(" + list(n.By, strconv.Itoa) + "; " + list(n.Es, showExpr) + "; " + parts + ")"
	case api.NodeDistinct:
		return "DISTINCT(" + parts + ")"
	case api.NodeUnion:
		return "UNION(" + parts + ")"
	case api.NodeSort:
		return "SORT(" + list(keys(n), showKey) + "; " + parts + ")"
	}
	return "LIMIT(" + strconv.Itoa(n.N) + "; " + parts + ")"
}

// list is the texts of all of l.
func list[T any](l []T, text func(thing T) string) string {
	texts := make([]string, len(l))
	for i, thing := range l {
		texts[i] = text(thing)
	}
	return strings.Join(texts, ", ")
}

// key is a place that rows are sorted by.
type key struct {
	place int
	down  bool
}

func keys(n api.Node) []key {
	var l []key
	for i, place := range n.By {
		l = append(l, key{place, n.Down[i]})
	}
	return l
}

func showKey(k key) string {
	if k.down {
		return strconv.Itoa(k.place) + "-"
	}
	return strconv.Itoa(k.place)
}

// standIns stand for an operator's parts, so that expr tells what it writes around them:
// in small letters, in which it writes nothing of its own.
var standIns = [...]string{"a", "b"}

// showExpr is the text of e, its columns called by their places, which expr has no text for.
func showExpr(e api.Expr) string {
	switch e.Kind {
	case api.ExprLit:
		return expr.Show(e)
	case api.ExprCol:
		return "#" + strconv.Itoa(e.N)
	}
	frame := e
	frame.L = nil
	for i := range e.L {
		frame.L = append(frame.L, expr.Column("", standIns[i]))
	}
	text, rest := "", expr.Show(frame)
	for i, part := range e.L {
		ahead, behind, _ := strings.Cut(rest, standIns[i])
		text, rest = text+ahead+showExpr(part), behind
	}
	return text + rest
}
