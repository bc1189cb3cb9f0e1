package catalog_test

import (
	"math"
	"math/rand"
	"slices"
	"strconv"
	"strings"

	"commissary/api"
	"commissary/value"
)

var (
	null = value.Null()
	yes  = value.Bool(true)
	no   = value.Bool(false)
	one  = value.Int(1)
)

func text(s string) api.Value        { return value.Text(s) }
func row(l ...api.Value) []api.Value { return l }

// cols is columns called a, b, c and so on, of types.
func cols(types ...int) []api.Column {
	var l []api.Column
	for i, kind := range types {
		l = append(l, api.Column{Name: "abcdefghijklmnopqrstuvwxyz"[i : i+1], Type: kind})
	}
	return l
}

// full is a table that has something of all that one may have.
func full() api.Table {
	return api.Table{
		Name: "t",
		Cols: cols(api.KindInt, api.KindText, api.KindBool),
		Rows: [][]api.Value{
			row(value.Int(2), text("x"), yes),
			row(one, text(""), no),
			row(null, null, null),
			row(one, text(""), no),
			row(value.Int(-api.MaxInt), text(strings.Repeat("'", api.MaxText)), null),
			row(value.Int(api.MaxInt), null, yes),
		},
	}
}

// named is full by another name.
func named(name string) api.Table {
	t := full()
	t.Name = name
	return t
}

// wide is a row of so many bytes, of as many texts as that takes.
func wide(size int) []api.Value {
	var r []api.Value
	for left := size - 1; left > 0; {
		n := min(left, 2+api.MaxText)
		if rest := left - n; rest == 1 { // the least text has 2 bytes
			n--
		}
		r = append(r, text(strings.Repeat("w", n-2)))
		left -= n
	}
	return r
}

// texts is the table of a row of texts.
func texts(r []api.Value) api.Table {
	return api.Table{Name: "t", Cols: cols(slices.Repeat([]int{api.KindText}, len(r))...), Rows: [][]api.Value{r}}
}

// change is what is done to full().
type change struct {
	why string
	do  func(t *api.Table)
}

// good is changes by which it may still be.
func good() []change {
	long := strings.Repeat("x", api.MaxName)
	return []change{
		{"nothing", func(t *api.Table) {}},
		{"a long name", func(t *api.Table) { t.Name = long }},
		{"a column's name", func(t *api.Table) { t.Name = "a" }},
		{"a name that begins with _", func(t *api.Table) { t.Name = "_1" }},
		{"a word in small letters", func(t *api.Table) { t.Name, t.Cols[0].Name = "select", "null" }},
		{"a column's long name", func(t *api.Table) { t.Cols[1].Name = long }},
		{"the table's name as a column's", func(t *api.Table) { t.Cols[1].Name = "t" }},
		{"names in another case", func(t *api.Table) { t.Cols[1].Name = "A" }},
		{"no rows", func(t *api.Table) { t.Rows = nil }},
		{"empty rows", func(t *api.Table) { t.Rows = [][]api.Value{} }},
		{"nulls alone", func(t *api.Table) { t.Rows = [][]api.Value{row(null, null, null)} }},
		{"one column", func(t *api.Table) { t.Cols, t.Rows = t.Cols[:1], [][]api.Value{row(one), row(null)} }},
		{"MaxColumns", func(t *api.Table) {
			t.Cols, t.Rows = cols(slices.Repeat([]int{api.KindBool}, api.MaxColumns)...), [][]api.Value{slices.Repeat(row(yes), api.MaxColumns)}
		}},
		{"MaxRows", func(t *api.Table) { t.Rows = slices.Repeat(t.Rows[:1], api.MaxRows) }},
		{"a row that just fits", func(t *api.Table) { *t = texts(wide(api.MaxWidth)) }},
		{"a row of many columns that just fits", func(t *api.Table) {
			r := slices.Concat(wide(api.MaxWidth-12), slices.Repeat(row(null), 12))
			*t = texts(r)
		}},
	}
}

// bad is changes by which it may not be.
func bad() []change {
	l := []change{
		{"all zero", func(t *api.Table) { *t = api.Table{} }},
		{"no columns", func(t *api.Table) { t.Cols, t.Rows = nil, nil }},
		{"no columns, empty rows", func(t *api.Table) { t.Cols, t.Rows = []api.Column{}, [][]api.Value{{}} }},
		{"MaxColumns, and one more", func(t *api.Table) {
			t.Cols, t.Rows = cols(slices.Repeat([]int{api.KindBool}, api.MaxColumns+1)...), nil
		}},
		{"very many columns", func(t *api.Table) { t.Cols, t.Rows = make([]api.Column, 1<<16), nil }},
		{"MaxRows, and one more", func(t *api.Table) { t.Rows = slices.Repeat(t.Rows[:1], api.MaxRows+1) }},
		{"very many rows", func(t *api.Table) { t.Rows = make([][]api.Value, 1<<16) }},
		{"names alike", func(t *api.Table) { t.Cols[1].Name = "a" }},
		{"names alike, far apart", func(t *api.Table) { t.Cols[2].Name = "a" }},
		{"names alike, of one type", func(t *api.Table) { t.Cols, t.Rows = slices.Repeat(t.Cols[:1], 2), nil }},
		{"a table's name", func(t *api.Table) { t.Cols[0].Tab = "t" }},
		{"another table's name", func(t *api.Table) { t.Cols[2].Tab = "u" }},
		{"an empty row", func(t *api.Table) { t.Rows[0] = nil }},
		{"a value too few", func(t *api.Table) { t.Rows[5] = t.Rows[5][:2] }},
		{"a value too many", func(t *api.Table) { t.Rows[2] = append(t.Rows[2], null) }},
		{"a row that does not fit", func(t *api.Table) { *t = texts(wide(api.MaxWidth + 1)) }},
		{"a row that does not fit behind one that does", func(t *api.Table) {
			*t = texts(wide(api.MaxWidth + 1))
			t.Rows = [][]api.Value{row(null, null, null, null), t.Rows[0]}
		}},
		{"a row that is far too wide", func(t *api.Table) {
			*t = texts(slices.Repeat(row(text(strings.Repeat("w", api.MaxText))), api.MaxColumns))
		}},
	}
	for _, kind := range []int{api.KindNull, -1, api.KindText + 1, 256 + api.KindInt, math.MinInt, math.MaxInt} {
		for i := range 3 {
			l = append(l, change{"a column of type " + strconv.Itoa(kind), func(t *api.Table) { t.Cols[i].Type, t.Rows = kind, nil }})
		}
	}
	for _, name := range badNames() {
		l = append(l, change{"a table " + name, func(t *api.Table) { t.Name = name }},
			change{"a first column " + name, func(t *api.Table) { t.Cols[0].Name = name }}, change{"a last column " + name, func(t *api.Table) { t.Cols[2].Name = name }})
	}
	return append(l, badValues()...)
}

// badNames is what is no name.
func badNames() []string {
	return []string{"", "SELECT", "NULL", "ALL", strings.Repeat("x", api.MaxName+1), "1", "1a", "a b", " a", "a ", "a.b", "é", "'a'", "*", "a--", "a\x00"}
}

// badValues is values that may not be, or not in their column.
func badValues() []change {
	var l []change
	put := func(why string, i int, v api.Value) {
		l = append(l, change{why, func(t *api.Table) { t.Rows[0][i] = v }}, change{why + ", in the last row", func(t *api.Table) { t.Rows[5][i] = v }})
	}
	for i, v := range []api.Value{one, text("1"), yes} {
		for k := range 3 {
			if k != i {
				put("a value of another kind", k, v)
			}
		}
		for _, odd := range []api.Value{{Kind: 4}, {Kind: -1}, {N: 1}, {S: "x"}, {Kind: 256 + v.Kind, N: v.N, S: v.S}} {
			put("a value that may not be", i, odd)
		}
	}
	put("an int that may not be", 0, value.Int(api.MaxInt+1))
	put("an int that may not be", 0, value.Int(-api.MaxInt-1))
	put("an int that may not be", 0, api.Value{Kind: api.KindInt, S: "x"})
	put("a text that may not be", 1, text(strings.Repeat("x", api.MaxText+1)))
	put("a text that may not be", 1, api.Value{Kind: api.KindText, N: 1})
	put("a bool that may not be", 2, api.Value{Kind: api.KindBool, N: 2})
	put("a bool that may not be", 2, api.Value{Kind: api.KindBool, N: -1})
	return l
}

// draw is a table that may be.
func draw(r *rand.Rand) api.Table {
	t := api.Table{Name: "t", Cols: cols(make([]int, 1+r.Intn(api.MaxColumns))...)}
	for i := range t.Cols {
		t.Cols[i].Type = api.KindBool + r.Intn(3)
	}
	most := (api.MaxWidth - 1) / len(t.Cols) // bytes of a value, so that rows fit
	for range r.Intn(200) {
		var l []api.Value
		for _, c := range t.Cols {
			l = append(l, drawValue(r, c.Type, most))
		}
		t.Rows = append(t.Rows, l)
	}
	return t
}

func drawValue(r *rand.Rand, kind, most int) api.Value {
	switch {
	case r.Intn(5) == 0:
		return null
	case kind == api.KindBool:
		return value.Bool(r.Intn(2) == 0)
	case kind == api.KindInt:
		return value.Int(r.Intn(7) - 3)
	}
	return text(strings.Repeat("y", r.Intn(min(api.MaxText, most-2)+1)))
}
