package parse

import (
	"slices"

	"commissary/api"
	"commissary/expr"
	"commissary/lex"
)

// Check tells whether q may be.
func Check(q api.Query) api.Errno {
	if isQuery(q) {
		return api.OK
	}
	return api.ErrParse
}

func isQuery(q api.Query) bool {
	return isList(q.Parts, 1, api.MaxParts, isPart) &&
		isList(q.Order, 0, api.MaxKeys, isKey) &&
		noLimit <= q.Limit && q.Limit <= api.MaxInt
}

// isList tells whether l has from least to most things, of each of which is holds.
func isList[T any](l []T, least, most int, is func(thing T) bool) bool {
	if len(l) < least || len(l) > most {
		return false
	}
	for _, thing := range l {
		if !is(thing) {
			return false
		}
	}
	return true
}

func isPart(s api.Select) bool {
	return isList(s.Items, 1, api.MaxItems, isItem) &&
		isList(s.From, 1, api.MaxSources, isSource) &&
		isFirst(s.From[0]) && isList(s.From[1:], 0, api.MaxSources, isJoined) &&
		(isNone(s.Where) || isCondition(s.Where)) &&
		isList(s.Group, 0, api.MaxGroups, isGroup)
}

func isItem(i api.Item) bool {
	if i.Star {
		return isNone(i.E) && i.As == ""
	}
	return isExpr(i.E) && (i.As == "" || lex.Name(i.As))
}

func isSource(s api.Source) bool {
	return lex.Name(s.Table) && lex.Name(s.As)
}

func isFirst(s api.Source) bool {
	return s.Join == api.JoinFirst && isNone(s.On)
}

func isJoined(s api.Source) bool {
	return api.JoinInner <= s.Join && s.Join <= api.JoinAnti && isCondition(s.On)
}

func isKey(k api.Key) bool {
	return lex.Name(k.Name)
}

func isGroup(e api.Expr) bool {
	return e.Kind == api.ExprCol && isExpr(e)
}

func isCondition(e api.Expr) bool {
	return isExpr(e) && len(expr.Aggs(e)) == 0
}

// isExpr tells whether e may be, and is not bound: its columns have no places yet.
func isExpr(e api.Expr) bool {
	bound := func(column api.Expr) bool { return column.N != 0 }
	return expr.Check(e) == api.OK && !slices.ContainsFunc(expr.Columns(e), bound)
}

// isNone asks all fields, as no text would tell of one that is not zero.
func isNone(e api.Expr) bool {
	return expr.Same(e, api.Expr{})
}

// Same tells whether all parts of a and b are the same.
func Same(a, b api.Query) bool {
	return slices.EqualFunc(a.Parts, b.Parts, samePart) && slices.Equal(a.Order, b.Order) && a.Limit == b.Limit
}

func samePart(a, b api.Select) bool {
	return a.Distinct == b.Distinct &&
		slices.EqualFunc(a.Items, b.Items, sameItem) &&
		slices.EqualFunc(a.From, b.From, sameSource) &&
		expr.Same(a.Where, b.Where) &&
		slices.EqualFunc(a.Group, b.Group, expr.Same)
}

func sameItem(a, b api.Item) bool {
	return a.Star == b.Star && a.As == b.As && expr.Same(a.E, b.E)
}

func sameSource(a, b api.Source) bool {
	return a.Table == b.Table && a.As == b.As && a.Join == b.Join && expr.Same(a.On, b.On)
}
