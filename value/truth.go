package value

import "commissary/api"

// The truths of And, Or and Not, by the truths that are asked: False, True, Unknown.
var (
	ands = [3][3]int{
		{api.False, api.False, api.False},
		{api.False, api.True, api.Unknown},
		{api.False, api.Unknown, api.Unknown},
	}
	ors = [3][3]int{
		{api.False, api.True, api.Unknown},
		{api.True, api.True, api.True},
		{api.Unknown, api.True, api.Unknown},
	}
	nots = [3]int{api.True, api.False, api.Unknown}
)

// And is True if both are.
func And(a, b int) int {
	return ands[truth(a)][truth(b)]
}

// Or is True if one is.
func Or(a, b int) int {
	return ors[truth(a)][truth(b)]
}

// Not turns False and True round.
func Not(a int) int {
	return nots[truth(a)]
}

// truth keeps the lists from being asked beyond their ends: a number that is none counts as Unknown.
func truth(n int) int {
	if n < api.False || n > api.Unknown {
		return api.Unknown
	}
	return n
}

// Equal tells whether a and b are the same.
func Equal(a, b api.Value) int {
	return judge(a, b, func(order int) bool { return order == 0 })
}

// Less tells whether a comes ahead of b.
func Less(a, b api.Value) int {
	return judge(a, b, func(order int) bool { return order < 0 })
}

// judge is what holds says of the order of a and b, where both are known and of one kind.
func judge(a, b api.Value, holds func(order int) bool) int {
	if !known(a) || !known(b) {
		return api.Unknown
	}
	if a.Kind != b.Kind {
		return api.False
	}
	return Truth(Bool(holds(Compare(a, b))))
}

func known(v api.Value) bool {
	return v.Kind != api.KindNull && mayBe(v)
}

// Truth is what a bool says; a bool that may not be says as little as all else.
func Truth(v api.Value) int {
	if v.Kind != api.KindBool || !mayBe(v) {
		return api.Unknown
	}
	if v.N == 1 {
		return api.True
	}
	return api.False
}

// Of is the bool that says truth; of Unknown there is none but null.
func Of(truth int) api.Value {
	switch truth {
	case api.False:
		return Bool(false)
	case api.True:
		return Bool(true)
	}
	return Null()
}
