package parse

import (
	"commissary/api"
	"commissary/expr"
	"commissary/value"
)

// noOp is what stands next where no operator does.
const noOp = 0

// begins is the word or sign that an operator begins with, behind its first part.
var begins = [...]string{
	api.OpOr: "OR", api.OpAnd: "AND",
	api.OpEq: "=", api.OpNe: "<>", api.OpLt: "<", api.OpLe: "<=", api.OpGt: ">", api.OpGe: ">=",
	api.OpAdd: "+", api.OpSub: "-", api.OpMul: "*", api.OpDiv: "/", api.OpMod: "%",
	api.OpNull: "IS",
}

func (r *reader) or() api.Expr {
	return r.row(r.and, api.OpOr)
}

func (r *reader) and() api.Expr {
	return r.row(r.not, api.OpAnd)
}

func (r *reader) not() api.Expr {
	if r.take("NOT") {
		return made(api.ExprOp, api.OpNot, r.not())
	}
	return r.cmp()
}

func (r *reader) cmp() api.Expr {
	return r.row(r.sum, api.OpEq, api.OpNe, api.OpLt, api.OpLe, api.OpGt, api.OpGe, api.OpNull)
}

func (r *reader) sum() api.Expr {
	return r.row(r.prod, api.OpAdd, api.OpSub)
}

func (r *reader) prod() api.Expr {
	return r.row(r.unary, api.OpMul, api.OpDiv, api.OpMod)
}

func (r *reader) unary() api.Expr {
	if r.take("-") {
		return made(api.ExprOp, api.OpNeg, r.unary())
	}
	return r.first()
}

// row is a row of operators, put together from the left; between them stands what part reads.
func (r *reader) row(part func() api.Expr, ops ...int) api.Expr {
	e := part()
	for {
		op := r.operator(ops...)
		switch {
		case op == noOp:
			return e
		case expr.Arity(op) == 1: // it stands behind its part, and all of it is taken
			e = made(api.ExprOp, op, e)
		default:
			e = made(api.ExprOp, op, e, part())
		}
	}
}

// operator takes that one of ops that stands next.
func (r *reader) operator(ops ...int) int {
	for _, op := range ops {
		if r.take(begins[op]) {
			if op == api.OpNull {
				return r.null()
			}
			return op
		}
	}
	return noOp
}

// null is the operator whose IS is taken.
func (r *reader) null() int {
	op := api.OpNull
	if r.take("NOT") {
		op = api.OpThere
	}
	r.must("NULL")
	return op
}

// made is an operator or an aggregate of parts that nothing else holds. Unlike those that
// expr makes it holds them as they are: copies of copies would be as many as a deep one's
// parts squared.
func made(kind, n int, parts ...api.Expr) api.Expr {
	return api.Expr{Kind: kind, N: n, L: parts}
}

func (r *reader) first() api.Expr {
	if t, taken := r.kind(api.TokNum); taken {
		return expr.Lit(value.Int(t.N))
	}
	if t, taken := r.kind(api.TokText); taken {
		return expr.Lit(value.Text(t.S))
	}
	switch {
	case r.take("TRUE"):
		return expr.Lit(value.Bool(true))
	case r.take("FALSE"):
		return expr.Lit(value.Bool(false))
	case r.take("NULL"):
		return expr.Lit(value.Null())
	case r.take("("):
		return r.enclosed()
	case r.take("COUNT"):
		return r.count()
	case r.take("SUM"):
		return r.agg(api.AggSum)
	case r.take("MIN"):
		return r.agg(api.AggMin)
	case r.take("MAX"):
		return r.agg(api.AggMax)
	}
	return r.column()
}

// enclosed is the expression behind a ( that is taken.
func (r *reader) enclosed() api.Expr {
	e := r.or()
	r.must(")")
	return e
}

// count is COUNT, of rows or of an expression, behind its word.
func (r *reader) count() api.Expr {
	r.must("(")
	if r.take("*") {
		r.must(")")
		return expr.Agg(api.AggRows)
	}
	return made(api.ExprAgg, api.AggCount, r.enclosed())
}

// agg is an aggregate of an expression, behind its word.
func (r *reader) agg(n int) api.Expr {
	r.must("(")
	return made(api.ExprAgg, n, r.enclosed())
}

func (r *reader) column() api.Expr {
	name := r.name()
	if r.take(".") {
		return expr.Column(name, r.name())
	}
	return expr.Column("", name)
}
