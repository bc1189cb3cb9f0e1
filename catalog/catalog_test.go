package catalog_test

import (
	"bytes"
	"math"
	"math/rand"
	"reflect"
	"slices"
	"strconv"
	"strings"
	"testing"

	"commissary/api"
	"commissary/catalog"
	"commissary/page"
	"commissary/value"
)

// P13.1: which table may be, and all that may not.
func TestTable(t *testing.T) {
	for _, x := range good() {
		table := full()
		x.do(&table)
		if e := catalog.Table(table); e != api.OK {
			t.Errorf("%s: %d", x.why, e)
		}
	}
	for _, x := range bad() {
		table := full()
		x.do(&table)
		if e := catalog.Table(table); e != api.ErrTable {
			t.Errorf("%s: %d", x.why, e)
		}
	}
}

// many is so many tables of unlike names.
func many(n int) []api.Table {
	var c []api.Table
	for i := range n {
		c = append(c, named("t"+strconv.Itoa(i)))
	}
	return c
}

// P13.1: how many tables a catalog may have.
func TestCheckMany(t *testing.T) {
	for n := range api.MaxTables + 1 {
		if e := catalog.Check(many(n)); e != api.OK {
			t.Errorf("%d tables: %d", n, e)
		}
	}
	for _, n := range []int{api.MaxTables + 1, 2 * api.MaxTables, 1000} {
		if e := catalog.Check(many(n)); e != api.ErrTable {
			t.Errorf("%d tables: %d", n, e)
		}
	}
	if e := catalog.Check([]api.Table{}); e != api.OK {
		t.Error("an empty list:", e)
	}
	if e := catalog.Check(make([]api.Table, 1<<16)); e != api.ErrTable {
		t.Error("very many:", e)
	}
}

// P13.1: names of tables are unlike, and names.
func TestCheckNames(t *testing.T) {
	for _, c := range [][]api.Table{
		{named("t"), named("T")}, {named("a"), named("b"), named("c")}, {named("t"), named("t_")}, {named("abc"), named("aBc"), named("abC")},
	} {
		if e := catalog.Check(c); e != api.OK {
			t.Errorf("%s, %s: %d", c[0].Name, c[1].Name, e)
		}
	}
	other := api.Table{Name: "t", Cols: cols(api.KindBool)}
	for i, c := range [][]api.Table{
		{named("t"), named("t")}, {named("t"), named("u"), named("t")}, {named("u"), named("t"), named("t")}, {named("t"), other},
		append(many(api.MaxTables-1), named("t3")),
	} {
		if e := catalog.Check(c); e != api.ErrTable {
			t.Errorf("catalog %d: %d", i, e)
		}
	}
	for _, name := range badNames() {
		for _, c := range [][]api.Table{{named(name)}, {named("u"), named(name)}, {named(name), named("u")}} {
			if e := catalog.Check(c); e != api.ErrTable {
				t.Errorf("a table %q: %d", name, e)
			}
		}
	}
}

// P13.1: a catalog may be if all its tables may.
func TestCheckTables(t *testing.T) {
	try := func(l []change, want api.Errno) {
		for _, x := range l {
			for at := range 3 {
				c := []api.Table{named("u"), named("v"), named("w")}
				name := c[at].Name
				x.do(&c[at])
				if want == api.OK {
					c[at].Name = name // so that names are unlike, whatever was changed
				}
				if e := catalog.Check(c); e != want {
					t.Errorf("%s, table %d: %d", x.why, at, e)
				}
			}
		}
	}
	try(good(), api.OK)
	try(bad(), api.ErrTable)
}

// P13.1: the first table of a name, from a catalog that may be or not.
func TestFind(t *testing.T) {
	first, second := named("t"), api.Table{Name: "t", Cols: cols(api.KindBool)}
	odd := api.Table{Name: "a b", Cols: []api.Column{{Tab: "x", Type: 9}}, Rows: [][]api.Value{{{Kind: 9, N: 7, S: "s"}}, nil}}
	upper := api.Table{Name: "T", Cols: cols(api.KindText)}
	c := []api.Table{upper, odd, first, named("u"), second, {}, {Cols: cols(api.KindInt)}}
	for _, x := range []struct {
		name string
		want api.Table
	}{{"t", first}, {"T", upper}, {"u", named("u")}, {"a b", odd}, {"", api.Table{}}} {
		got, found := catalog.Find(c, x.name)
		if !found || !alike(got, x.want) {
			t.Errorf("Find %q: %+v, %t", x.name, got, found)
		}
	}
	if got, found := catalog.Find([]api.Table{second, first}, "t"); !found || !alike(got, second) {
		t.Errorf("the first of two: %+v", got)
	}
	for _, name := range []string{"x", "U", "t ", "tt", "a", "SELECT"} {
		if got, found := catalog.Find(c, name); found || !reflect.DeepEqual(got, api.Table{}) {
			t.Errorf("Find %q: %+v, %t", name, got, found)
		}
	}
	for _, c := range [][]api.Table{nil, {}, {first}} {
		for _, name := range []string{"", "v"} {
			if got, found := catalog.Find(c, name); found || !reflect.DeepEqual(got, api.Table{}) {
				t.Errorf("Find %q of %d tables: %+v, %t", name, len(c), got, found)
			}
		}
	}
}

// alike tells whether two tables are, row by row, lists that are nil and empty alike.
func alike(a, b api.Table) bool {
	return a.Name == b.Name && slices.Equal(a.Cols, b.Cols) && slices.EqualFunc(a.Rows, b.Rows, slices.Equal[[]api.Value])
}

// P13.1: the columns go by the name that is handed in, whatever it is.
func TestColumns(t *testing.T) {
	for _, as := range []string{"t", "u", "", "SELECT", "a b"} {
		want := []api.Column{{Tab: as, Name: "a", Type: api.KindInt}, {Tab: as, Name: "b", Type: api.KindText}, {Tab: as, Name: "c", Type: api.KindBool}}
		if got := catalog.Columns(full(), as); !slices.Equal(got, want) {
			t.Errorf("%q: %+v", as, got)
		}
		odd := api.Table{Cols: []api.Column{{Tab: "x", Name: "a", Type: 9}, {Name: ""}, {Tab: "y", Name: "a", Type: -1}}}
		want = []api.Column{{Tab: as, Name: "a", Type: 9}, {Tab: as}, {Tab: as, Name: "a", Type: -1}}
		if got := catalog.Columns(odd, as); !slices.Equal(got, want) {
			t.Errorf("%q, of a table that may not be: %+v", as, got)
		}
		if got := catalog.Columns(api.Table{Name: "t"}, as); len(got) != 0 {
			t.Errorf("%q, of no columns: %+v", as, got)
		}
	}
}

// P13.1: which rows columns are of.
func TestFits(t *testing.T) {
	three := cols(api.KindInt, api.KindText, api.KindBool)
	most := cols(make([]int, 26)...)
	for i := range 6 {
		most = append(most, api.Column{Name: "x" + strconv.Itoa(i), Type: api.KindInt})
	}
	for i, x := range []struct {
		cols []api.Column
		r    []api.Value
		want bool
	}{
		{nil, nil, true}, {[]api.Column{}, row(), true}, {nil, row(), true}, {three, full().Rows[0], true},
		{three, row(null, null, null), true}, {three, row(one, null, no), true}, {three, row(null, text("x"), null), true},
		{nil, row(null), false}, {three, nil, false}, {three, row(one, text("x")), false}, {three, row(one, text("x"), yes, null), false}, {three[:1], nil, false},
		{three, row(text("x"), text("x"), yes), false}, {three, row(one, one, yes), false}, {three, row(one, text("x"), one), false}, {three, row(yes, text("x"), yes), false},
		{three, row(value.Int(api.MaxInt+1), null, null), false}, {three, row(one, text(strings.Repeat("x", api.MaxText+1)), null), false},
		{three, row(one, null, api.Value{Kind: api.KindBool, N: 2}), false}, {three, row(api.Value{N: 1}, null, null), false}, {three, row(one, null, api.Value{S: "x"}), false},
		// a column of no type has nulls alone, as no value of its kind may be
		{cols(9), row(api.Value{Kind: 9}), false}, {cols(9), row(null), true}, {cols(api.KindNull), row(null), true}, {cols(api.KindNull), row(one), false}, {cols(-1), row(api.Value{Kind: -1}), false},
		// the columns' names are not asked, nor whether the row fits into a page
		{[]api.Column{{Tab: "t", Name: "a", Type: api.KindInt}, {Name: "a", Type: api.KindInt}, {Type: api.KindText}}, row(one, one, text("x")), true},
		{texts(wide(api.MaxWidth + 1)).Cols, wide(api.MaxWidth + 1), true},
		{most, slices.Repeat(row(null), api.MaxCols), true}, {append(most, most[0]), slices.Repeat(row(null), api.MaxCols+1), false},
	} {
		if got := catalog.Fits(x.cols, x.r); got != x.want {
			t.Errorf("%d: Fits %+v, %+v: %t", i, x.cols, x.r, got)
		}
	}
}

// P13.1: Pages refuses what Table does.
func TestPagesRefuse(t *testing.T) {
	for _, x := range bad() {
		table := full()
		x.do(&table)
		if got, e := catalog.Pages(table); e != api.ErrTable || len(got) != 0 {
			t.Errorf("%s: %d pages, %d", x.why, len(got), e)
		}
	}
}

// checkPages is that a table's pages are its rows, in order, each page as full as can be.
func checkPages(t *testing.T, why string, table api.Table) int {
	t.Helper()
	pages, e := catalog.Pages(table)
	if e != api.OK {
		t.Fatalf("%s: %d", why, e)
	}
	rows, e := page.Pages(pages)
	if e != api.OK || !slices.EqualFunc(rows, table.Rows, slices.Equal[[]api.Value]) {
		t.Errorf("%s: other rows are read, %d", why, e)
	}
	if want, _ := page.Fill(table.Rows); !slices.EqualFunc(pages, want, bytes.Equal) {
		t.Errorf("%s: other pages", why)
	}
	return len(pages)
}

// P13.1, P13.3: the pages are the rows, in order.
func TestPages(t *testing.T) {
	for _, x := range good() {
		table := full()
		x.do(&table)
		checkPages(t, x.why, table)
	}
	for _, rows := range [][][]api.Value{nil, {}} {
		if n := checkPages(t, "no rows", api.Table{Name: "t", Cols: cols(api.KindInt), Rows: rows}); n != 0 {
			t.Errorf("no rows: %d pages", n)
		}
	}
	ints := api.Table{Name: "t", Cols: cols(api.KindInt)}
	for i := range api.MaxRows {
		ints.Rows = append(ints.Rows, row(value.Int((api.MaxRows/2-i)*i)))
	}
	if n := checkPages(t, "MaxRows", ints); n != (api.MaxRows+22)/23 { // a row has 9 bytes, and 2 for its place
		t.Errorf("MaxRows: %d pages", n)
	}
	widest := texts(wide(api.MaxWidth))
	widest.Rows = slices.Repeat(widest.Rows, 5)
	if n := checkPages(t, "a page for each row", widest); n != 5 {
		t.Errorf("a page for each row: %d", n)
	}
	r := rand.New(rand.NewSource(1))
	for range 200 {
		table := draw(r)
		if e := catalog.Check([]api.Table{table}); e != api.OK {
			t.Fatalf("%s: %d", catalog.Show(table), e)
		}
		checkPages(t, catalog.Show(table), table)
	}
}

// P13.2: the names and types of columns, of any table.
func TestShow(t *testing.T) {
	for _, x := range []struct {
		table api.Table
		want  string
	}{
		{full(), "t(a INT, b TEXT, c BOOL)"},
		{api.Table{Name: "t", Cols: cols(api.KindInt, api.KindText)}, "t(a INT, b TEXT)"},
		{api.Table{Name: "long_1", Cols: cols(api.KindBool)}, "long_1(a BOOL)"},
		{api.Table{Name: "t"}, "t()"},
		{api.Table{Name: "t", Cols: []api.Column{}}, "t()"},
		{api.Table{}, "()"},
		{api.Table{Name: "t", Cols: cols(api.KindNull, -1, api.KindText+1, 256+api.KindInt, math.MinInt, math.MaxInt)}, "t(a ?, b ?, c ?, d ?, e ?, f ?)"},
		{api.Table{Name: "t", Cols: cols(api.KindInt, 7, api.KindInt)}, "t(a INT, b ?, c INT)"},
		{api.Table{Name: "a b", Cols: []api.Column{{Tab: "t", Name: "x", Type: api.KindInt}, {Tab: "u", Name: "x", Type: api.KindInt}, {Type: api.KindText}}}, "a b(x INT, x INT,  TEXT)"},
	} {
		if got := catalog.Show(x.table); got != x.want {
			t.Errorf("%q, not %q", got, x.want)
		}
	}
}

// P13.2: nothing of the rows is shown.
func TestShowRows(t *testing.T) {
	table := full()
	for _, rows := range [][][]api.Value{nil, {nil}, {row(one)}, {{{Kind: 9}}}} {
		table.Rows = rows
		if got := catalog.Show(table); got != "t(a INT, b TEXT, c BOOL)" {
			t.Error(got)
		}
	}
}
