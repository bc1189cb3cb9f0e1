// Package value is layer 1: values, and truths of three kinds. See shared/doc/01-value.md.
package value

import (
	"cmp"
	"strconv"
	"strings"

	"commissary/api"
)

// Check tells whether v may be.
func Check(v api.Value) api.Errno {
	if mayBe(v) {
		return api.OK
	}
	return api.ErrValue
}

func mayBe(v api.Value) bool {
	switch v.Kind {
	case api.KindNull:
		return v.N == 0 && v.S == ""
	case api.KindBool:
		return (v.N == 0 || v.N == 1) && v.S == ""
	case api.KindInt:
		return -api.MaxInt <= v.N && v.N <= api.MaxInt && v.S == ""
	case api.KindText:
		return v.N == 0 && len(v.S) <= api.MaxText
	}
	return false
}

// Null is the value of nothing.
func Null() api.Value {
	return api.Value{Kind: api.KindNull}
}

// Bool is the bool of is.
func Bool(is bool) api.Value {
	if is {
		return api.Value{Kind: api.KindBool, N: 1}
	}
	return api.Value{Kind: api.KindBool}
}

// Int is the int n; beyond MaxInt it is a value that may not be, as Check tells.
func Int(n int) api.Value {
	return api.Value{Kind: api.KindInt, N: n}
}

// Text is the text s; beyond MaxText it is a value that may not be, as Check tells.
func Text(s string) api.Value {
	return api.Value{Kind: api.KindText, S: s}
}

// Compare is -1, 0, 1 as a comes ahead of b. All fields count, so that
// values that may not be have their place in the one order, too.
func Compare(a, b api.Value) int {
	if a.Kind != b.Kind {
		return cmp.Compare(a.Kind, b.Kind)
	}
	if a.N != b.N {
		return cmp.Compare(a.N, b.N)
	}
	return cmp.Compare(a.S, b.S)
}

// Show is the text of v, as a query has it.
func Show(v api.Value) string {
	if !mayBe(v) {
		return "?"
	}
	switch v.Kind {
	case api.KindBool:
		if v.N == 1 {
			return "TRUE"
		}
		return "FALSE"
	case api.KindInt:
		return strconv.Itoa(v.N)
	case api.KindText:
		return "'" + strings.ReplaceAll(v.S, "'", "''") + "'"
	}
	return "NULL"
}
