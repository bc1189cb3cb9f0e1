package value_test

import (
	"math"
	"testing"

	"commissary/api"
	"commissary/value"
)

// numbers is the truths, and numbers that are none.
func numbers() []int {
	return []int{api.False, api.True, api.Unknown, -1, -2, 3, 4, 9, 256, math.MinInt, math.MaxInt}
}

func truthOf(n int) int {
	if n == 0 || n == 1 {
		return n
	}
	return api.Unknown
}

// P1.2: Equal and Less of values that may be.
func TestEqualLess(t *testing.T) {
	l, _ := good()
	for i, a := range l {
		for k, b := range l {
			equal, less := api.False, api.False
			switch {
			case a.Kind == api.KindNull || b.Kind == api.KindNull:
				equal, less = api.Unknown, api.Unknown
			case a.Kind != b.Kind:
			case i == k:
				equal = api.True
			case i < k:
				less = api.True
			}
			if got := value.Equal(a, b); got != equal {
				t.Errorf("Equal(%+v, %+v) = %d", a, b, got)
			}
			if got := value.Less(a, b); got != less {
				t.Errorf("Less(%+v, %+v) = %d", a, b, got)
			}
		}
	}
}

// P1.2: where one may not be, nothing is known, whatever the other one is.
func TestEqualLessOfBad(t *testing.T) {
	for _, a := range bad() {
		for _, b := range all() {
			if value.Equal(a, b) != api.Unknown || value.Equal(b, a) != api.Unknown {
				t.Errorf("Equal of %+v, %+v", a, b)
			}
			if value.Less(a, b) != api.Unknown || value.Less(b, a) != api.Unknown {
				t.Errorf("Less of %+v, %+v", a, b)
			}
		}
	}
}

// P1.2: And, Or and Not of truths.
func TestAndOrNot(t *testing.T) {
	for _, x := range []struct{ a, b, and, or int }{
		{api.False, api.False, api.False, api.False},
		{api.False, api.True, api.False, api.True},
		{api.False, api.Unknown, api.False, api.Unknown},
		{api.True, api.True, api.True, api.True},
		{api.True, api.Unknown, api.Unknown, api.True},
		{api.Unknown, api.Unknown, api.Unknown, api.Unknown},
	} {
		if value.And(x.a, x.b) != x.and || value.And(x.b, x.a) != x.and {
			t.Errorf("And of %d, %d: %d, %d", x.a, x.b, value.And(x.a, x.b), value.And(x.b, x.a))
		}
		if value.Or(x.a, x.b) != x.or || value.Or(x.b, x.a) != x.or {
			t.Errorf("Or of %d, %d: %d, %d", x.a, x.b, value.Or(x.a, x.b), value.Or(x.b, x.a))
		}
	}
	if value.Not(api.False) != api.True || value.Not(api.True) != api.False || value.Not(api.Unknown) != api.Unknown {
		t.Error("Not")
	}
}

// P1.2: numbers that are no truths count as Unknown.
func TestNoTruths(t *testing.T) {
	for _, a := range numbers() {
		if value.Not(a) != value.Not(truthOf(a)) {
			t.Errorf("Not(%d) = %d", a, value.Not(a))
		}
		for _, b := range numbers() {
			if value.And(a, b) != value.And(truthOf(a), truthOf(b)) {
				t.Errorf("And(%d, %d) = %d", a, b, value.And(a, b))
			}
			if value.Or(a, b) != value.Or(truthOf(a), truthOf(b)) {
				t.Errorf("Or(%d, %d) = %d", a, b, value.Or(a, b))
			}
		}
	}
}

// P1.2: values as truths, truths as values.
func TestTruthOf(t *testing.T) {
	for _, v := range all() {
		want := api.Unknown
		if v == (api.Value{Kind: api.KindBool}) {
			want = api.False
		} else if v == (api.Value{Kind: api.KindBool, N: 1}) {
			want = api.True
		}
		if got := value.Truth(v); got != want {
			t.Errorf("Truth(%+v) = %d", v, got)
		}
	}
	for _, n := range numbers() {
		want := api.Value{}
		if n == api.False || n == api.True {
			want = api.Value{Kind: api.KindBool, N: n}
		}
		if got := value.Of(n); got != want {
			t.Errorf("Of(%d) = %+v", n, got)
		}
		if got := value.Truth(value.Of(n)); got != truthOf(n) {
			t.Errorf("Truth(Of(%d)) = %d", n, got)
		}
	}
}

// P1.3: de Morgan, and Not twice.
func TestDeMorgan(t *testing.T) {
	for _, a := range numbers() {
		if value.Not(value.Not(a)) != truthOf(a) {
			t.Errorf("Not twice of %d", a)
		}
		for _, b := range numbers() {
			if value.Not(value.And(a, b)) != value.Or(value.Not(a), value.Not(b)) {
				t.Errorf("Not of And of %d, %d", a, b)
			}
			if value.Not(value.Or(a, b)) != value.And(value.Not(a), value.Not(b)) {
				t.Errorf("Not of Or of %d, %d", a, b)
			}
		}
	}
}
