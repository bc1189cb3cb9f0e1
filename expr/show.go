package expr

import (
	"commissary/api"
	"commissary/value"
)

// between is what stands between an operator's two parts.
var between = [...]string{
	api.OpOr: "OR", api.OpAnd: "AND",
	api.OpEq: "=", api.OpNe: "<>", api.OpLt: "<", api.OpLe: "<=", api.OpGt: ">", api.OpGe: ">=",
	api.OpAdd: "+", api.OpSub: "-", api.OpMul: "*", api.OpDiv: "/", api.OpMod: "%",
}

// Show is the text of e.
func Show(e api.Expr) string {
	if Check(e) != api.OK {
		return ""
	}
	return show(e)
}

func show(e api.Expr) string {
	switch e.Kind {
	case api.ExprLit:
		return value.Show(e.V)
	case api.ExprCol:
		return showColumn(e.Tab, e.Col)
	case api.ExprAgg:
		return showAgg(e)
	}
	return "(" + showOp(e) + ")"
}

func showColumn(tab, col string) string {
	if tab == "" {
		return col
	}
	return tab + "." + col
}

func showOp(e api.Expr) string {
	first := show(e.L[0])
	switch e.N {
	case api.OpNot:
		return "NOT " + first
	case api.OpNeg:
		return "- " + first
	case api.OpNull:
		return first + " IS NULL"
	case api.OpThere:
		return first + " IS NOT NULL"
	}
	return first + " " + between[e.N] + " " + show(e.L[1])
}

func showAgg(e api.Expr) string {
	switch e.N {
	case api.AggCount:
		return "COUNT(" + show(e.L[0]) + ")"
	case api.AggSum:
		return "SUM(" + show(e.L[0]) + ")"
	case api.AggMin:
		return "MIN(" + show(e.L[0]) + ")"
	case api.AggMax:
		return "MAX(" + show(e.L[0]) + ")"
	}
	return "COUNT(*)"
}
