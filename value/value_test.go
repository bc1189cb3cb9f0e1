package value_test

import (
	"math"
	"strings"
	"testing"

	"commissary/api"
	"commissary/value"
)

// good is values that may be, in their order, with their texts: each kind at its limits.
func good() ([]api.Value, []string) {
	long := strings.Repeat("z", api.MaxText)
	l := []struct {
		v    api.Value
		text string
	}{
		{api.Value{}, "NULL"},
		{api.Value{Kind: 1, N: 0}, "FALSE"},
		{api.Value{Kind: 1, N: 1}, "TRUE"},
		{api.Value{Kind: 2, N: -9007199254740991}, "-9007199254740991"},
		{api.Value{Kind: 2, N: -10}, "-10"},
		{api.Value{Kind: 2, N: -9}, "-9"},
		{api.Value{Kind: 2, N: -1}, "-1"},
		{api.Value{Kind: 2, N: 0}, "0"},
		{api.Value{Kind: 2, N: 1}, "1"},
		{api.Value{Kind: 2, N: 9}, "9"},
		{api.Value{Kind: 2, N: 10}, "10"},
		{api.Value{Kind: 2, N: 9007199254740991}, "9007199254740991"},
		{api.Value{Kind: 3, S: ""}, "''"},
		{api.Value{Kind: 3, S: "\x00"}, "'\x00'"},
		{api.Value{Kind: 3, S: "\x00\x00"}, "'\x00\x00'"},
		{api.Value{Kind: 3, S: "''"}, "''''''"},
		{api.Value{Kind: 3, S: "B"}, "'B'"},
		{api.Value{Kind: 3, S: "a"}, "'a'"},
		{api.Value{Kind: 3, S: "aa"}, "'aa'"},
		{api.Value{Kind: 3, S: "it's"}, "'it''s'"},
		{api.Value{Kind: 3, S: long[1:]}, "'" + long[1:] + "'"},
		{api.Value{Kind: 3, S: long}, "'" + long + "'"},
		{api.Value{Kind: 3, S: "é"}, "'é'"},
		{api.Value{Kind: 3, S: "\xff\n"}, "'\xff\n'"},
	}
	var values []api.Value
	var texts []string
	for _, x := range l {
		values, texts = append(values, x.v), append(texts, x.text)
	}
	return values, texts
}

// bad is values that may not be, in their order.
func bad() []api.Value {
	return []api.Value{
		{Kind: math.MinInt},
		{Kind: -1},
		{Kind: 0, N: -1},
		{Kind: 0, N: 0, S: "x"},
		{Kind: 0, N: 1},
		{Kind: 1, N: -1},
		{Kind: 1, N: 0, S: "x"},
		{Kind: 1, N: 1, S: "x"},
		{Kind: 1, N: 2},
		{Kind: 2, N: math.MinInt},
		{Kind: 2, N: -9007199254740992},
		{Kind: 2, N: 7, S: "x"},
		{Kind: 2, N: 9007199254740992},
		{Kind: 2, N: math.MaxInt},
		{Kind: 3, N: -1, S: "a"},
		{Kind: 3, N: 0, S: strings.Repeat("a", 65)},
		{Kind: 3, N: 0, S: strings.Repeat("b", 1000)},
		{Kind: 3, N: 1},
		{Kind: 4},
		{Kind: 256},
		{Kind: math.MaxInt},
	}
}

func all() []api.Value {
	l, _ := good()
	return append(l, bad()...)
}

func sign(i, k int) int {
	if i < k {
		return -1
	}
	if i > k {
		return 1
	}
	return 0
}

// P1.1: what may be, and what may not.
func TestCheck(t *testing.T) {
	l, _ := good()
	for _, v := range l {
		if e := value.Check(v); e != api.OK {
			t.Errorf("Check(%+v) = %d", v, e)
		}
	}
	for _, v := range bad() {
		if e := value.Check(v); e != api.ErrValue {
			t.Errorf("Check(%+v) = %d", v, e)
		}
	}
}

// P1.1: each maker makes its kind, even of what may not be.
func TestMake(t *testing.T) {
	long := strings.Repeat("x", api.MaxText+1)
	for _, x := range []struct{ got, want api.Value }{
		{value.Null(), api.Value{Kind: api.KindNull}},
		{value.Bool(false), api.Value{Kind: api.KindBool, N: 0}},
		{value.Bool(true), api.Value{Kind: api.KindBool, N: 1}},
		{value.Int(0), api.Value{Kind: api.KindInt}},
		{value.Int(-7), api.Value{Kind: api.KindInt, N: -7}},
		{value.Int(api.MaxInt), api.Value{Kind: api.KindInt, N: api.MaxInt}},
		{value.Int(api.MaxInt + 1), api.Value{Kind: api.KindInt, N: api.MaxInt + 1}},
		{value.Int(math.MinInt), api.Value{Kind: api.KindInt, N: math.MinInt}},
		{value.Text(""), api.Value{Kind: api.KindText}},
		{value.Text("it's"), api.Value{Kind: api.KindText, S: "it's"}},
		{value.Text(long[1:]), api.Value{Kind: api.KindText, S: long[1:]}},
		{value.Text(long), api.Value{Kind: api.KindText, S: long}},
	} {
		if x.got != x.want {
			t.Errorf("%+v, not %+v", x.got, x.want)
		}
	}
	if value.Check(value.Int(api.MaxInt+1)) != api.ErrValue || value.Check(value.Int(-api.MaxInt-1)) != api.ErrValue || value.Check(value.Text(long)) != api.ErrValue {
		t.Error("one beyond a limit may be")
	}
}

// P1.1: the order of values that may be, and of those that may not.
func TestCompare(t *testing.T) {
	l, _ := good()
	for _, l := range [][]api.Value{l, bad()} {
		for i, a := range l {
			for k, b := range l {
				if got := value.Compare(a, b); got != sign(i, k) {
					t.Errorf("Compare(%+v, %+v) = %d", a, b, got)
				}
			}
		}
	}
	kindFirst := []api.Value{{Kind: -1, N: 9, S: "z"}, {Kind: 0, N: 5, S: "z"}, {Kind: 0, N: 6, S: "a"}, {Kind: 0, N: 6, S: "b"}, {Kind: 9, N: -9}}
	for i, a := range kindFirst {
		for k, b := range kindFirst {
			if got := value.Compare(a, b); got != sign(i, k) {
				t.Errorf("Compare(%+v, %+v) = %d", a, b, got)
			}
		}
	}
}

// P1.1: texts of values.
func TestShow(t *testing.T) {
	l, texts := good()
	for i, v := range l {
		if got := value.Show(v); got != texts[i] {
			t.Errorf("Show(%+v) = %s, not %s", v, got, texts[i])
		}
	}
	for _, v := range bad() {
		if got := value.Show(v); got != "?" {
			t.Errorf("Show(%+v) = %s", v, got)
		}
	}
	if got := value.Show(value.Text(strings.Repeat("'", 64))); got != strings.Repeat("'", 130) {
		t.Error(got)
	}
}

// P1.3: the order is one: of two unlike values just one comes ahead, and what comes ahead of what comes ahead does so, too.
func TestOneOrder(t *testing.T) {
	l := all()
	for _, a := range l {
		for _, b := range l {
			ab := value.Compare(a, b)
			if (ab == 0) != (a == b) || value.Compare(b, a) != -ab {
				t.Errorf("%+v, %+v: %d, %d", a, b, ab, value.Compare(b, a))
			}
			for _, c := range l {
				if ab <= 0 && value.Compare(b, c) <= 0 && value.Compare(a, c) > 0 {
					t.Errorf("%+v, %+v, %+v", a, b, c)
				}
			}
		}
	}
}
