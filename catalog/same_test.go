package catalog_test

import (
	"math/rand"
	"reflect"
	"slices"
	"testing"

	"commissary/api"
	"commissary/catalog"
	"commissary/value"
)

// others is full, and tables that differ from it, and from one another.
func others() []api.Table {
	l := []api.Table{full()}
	for _, do := range []func(t *api.Table){
		func(t *api.Table) { t.Name = "T" },
		func(t *api.Table) { t.Name = "" },
		func(t *api.Table) { t.Cols[0].Name = "A" },
		func(t *api.Table) { t.Cols[0].Type = api.KindText },
		func(t *api.Table) { t.Cols[2].Tab = "t" },
		func(t *api.Table) { t.Cols[0], t.Cols[1] = t.Cols[1], t.Cols[0] },
		func(t *api.Table) { t.Cols = t.Cols[:2] },
		func(t *api.Table) { t.Cols = nil },
		func(t *api.Table) { t.Cols = append(t.Cols, api.Column{}) },
		func(t *api.Table) { t.Rows = nil },
		func(t *api.Table) { t.Rows = t.Rows[:5] },
		func(t *api.Table) { t.Rows = t.Rows[:3] },
		func(t *api.Table) { t.Rows = append(t.Rows, t.Rows[0]) },
		func(t *api.Table) { t.Rows = append(t.Rows, t.Rows[1]) },
		func(t *api.Table) { t.Rows = append(t.Rows, nil) },
		func(t *api.Table) { t.Rows[0] = t.Rows[1] },
		func(t *api.Table) { t.Rows[1] = t.Rows[0] },
		func(t *api.Table) { t.Rows[2] = nil },
		func(t *api.Table) { t.Rows[2] = t.Rows[2][:2] },
		func(t *api.Table) { t.Rows[2] = append(t.Rows[2], null) },
		func(t *api.Table) { t.Rows[0][0].N = 3 },
		func(t *api.Table) { t.Rows[0][1].S = "X" },
		func(t *api.Table) { t.Rows[5][1].Kind = api.KindText },
		func(t *api.Table) { t.Rows[5][1] = api.Value{Kind: 9, N: 1, S: "a"} },
		func(t *api.Table) { t.Rows[5][1] = api.Value{Kind: 9, N: 1, S: "b"} },
		func(t *api.Table) { t.Rows[5][1] = api.Value{Kind: 9, N: 2, S: "a"} },
	} {
		t := full()
		do(&t)
		l = append(l, t)
	}
	return l
}

// turned is a table whose rows stand the other way round.
func turned(t api.Table) api.Table {
	t.Rows = slices.Clone(t.Rows)
	slices.Reverse(t.Rows)
	return t
}

// P13.1: tables are the same by their names, columns and rows, wherever the rows stand.
func TestSame(t *testing.T) {
	for i, x := range others() {
		for k, y := range others() {
			for _, c := range [][2][]api.Table{
				{{x}, {y}}, {{x}, {turned(y)}}, {{turned(x)}, {y}}, {{named("u"), x}, {named("u"), y}}, {{x, named("u")}, {turned(y), named("u")}}, {{x, x}, {x, y}},
			} {
				if got := catalog.Same(c[0], c[1]); got != (i == k) {
					t.Errorf("Same of changes %d, %d: %t", i, k, got)
				}
			}
		}
	}
}

// P13.1: tables stand in the same order, each as often; lists nil and empty are alike.
func TestSameCatalogs(t *testing.T) {
	a, b, c := named("a"), named("b"), named("c")
	l := [][]api.Table{nil, {a}, {b}, {a, a}, {a, b}, {b, a}, {a, b, c}, {a, c, b}, {c, b, a}, {b, c, a}, {a, a, b}, {{}}, {{}, {}}}
	for i, x := range l {
		for k, y := range l {
			if got := catalog.Same(x, y); got != (i == k) {
				t.Errorf("Same of catalogs %d, %d: %t", i, k, got)
			}
		}
	}
	empty := api.Table{Cols: []api.Column{}, Rows: [][]api.Value{}}
	if !catalog.Same(nil, []api.Table{}) || !catalog.Same([]api.Table{{}}, []api.Table{empty}) {
		t.Error("nil and empty lists")
	}
	if !catalog.Same([]api.Table{{Rows: [][]api.Value{nil}}}, []api.Table{{Rows: [][]api.Value{{}}}}) {
		t.Error("nil and empty rows")
	}
	if catalog.Same([]api.Table{{}}, []api.Table{{Rows: [][]api.Value{nil}}}) {
		t.Error("an empty row is none")
	}
}

// P13.1: rows count as often as they stand there, in any order; held against a plain count.
func TestSameDrawn(t *testing.T) {
	r := rand.New(rand.NewSource(1))
	drawRows := func() [][]api.Value {
		var rows [][]api.Value
		for range r.Intn(5) {
			rows = append(rows, row(value.Int(r.Intn(2)), value.Int(r.Intn(2))))
		}
		return rows
	}
	count := func(rows [][]api.Value) map[[2]int]int {
		counts := map[[2]int]int{}
		for _, l := range rows {
			counts[[2]int{l[0].N, l[1].N}]++
		}
		return counts
	}
	same := 0
	for range 20000 {
		x, y := api.Table{Name: "t", Rows: drawRows()}, api.Table{Name: "t", Rows: drawRows()}
		want := reflect.DeepEqual(count(x.Rows), count(y.Rows))
		if got := catalog.Same([]api.Table{x}, []api.Table{y}); got != want {
			t.Fatalf("%v, %v: %t", x.Rows, y.Rows, got)
		}
		if want {
			same++
		}
	}
	if same < 1000 {
		t.Error("too few are the same:", same)
	}
}

// spare is t with room behind each list, and something there.
func spare(t api.Table) api.Table {
	t.Cols = append(t.Cols, api.Column{Name: "behind"})[:len(t.Cols)]
	t.Rows = append(t.Rows, row(one))[:len(t.Rows)]
	for i, r := range t.Rows {
		t.Rows[i] = append(r, one)[:len(r)]
	}
	return t
}

// all is everything of a table, with the room behind the ends of its lists.
func all(t api.Table) api.Table {
	rows := t.Rows[:cap(t.Rows)]
	t.Cols, t.Rows = slices.Clone(t.Cols[:cap(t.Cols)]), nil
	for _, r := range rows {
		t.Rows = append(t.Rows, slices.Clone(r[:cap(r)]))
	}
	return t
}

// R3: what is handed in stays as it is, and the room behind it.
func TestUnchanged(t *testing.T) {
	for _, x := range slices.Concat(good(), bad()) {
		table, again := full(), full()
		x.do(&table)
		x.do(&again)
		table, again = spare(table), spare(again)
		c := append(make([]api.Table, 0, 3), table, table)
		catalog.Check(c)
		catalog.Table(table)
		catalog.Find(c, "t")
		catalog.Columns(table, "u")
		catalog.Pages(table)
		catalog.Same(c, c[:1])
		catalog.Same(c, c)
		catalog.Show(table)
		for _, r := range table.Rows[:min(len(table.Rows), 9)] {
			catalog.Fits(table.Cols, r)
		}
		for i, got := range []api.Table{table, c[0], c[1]} {
			if !reflect.DeepEqual(all(got), all(again)) {
				t.Errorf("%s: changed, %d", x.why, i)
			}
		}
		if !reflect.DeepEqual(c[:3][2], api.Table{}) {
			t.Errorf("%s: the room behind a catalog is changed", x.why)
		}
	}
}

// R3: what is answered shares nothing with what is handed in, nor with itself.
func TestApart(t *testing.T) {
	shared := full()
	shared.Rows[3] = shared.Rows[1]
	c := []api.Table{spare(shared)}
	want := full()
	got, _ := catalog.Find(c, "t")
	for i := range got.Rows {
		r := got.Rows[i][:cap(got.Rows[i])]
		for k := range r {
			r[k] = text("changed")
		}
		for k, other := range got.Rows {
			if k > i && !slices.Equal(other, want.Rows[k]) {
				t.Errorf("rows %d and %d are one", i, k)
			}
		}
	}
	clear(got.Rows[:cap(got.Rows)])
	clear(got.Cols[:cap(got.Cols)])
	columns := catalog.Columns(c[0], "u")
	clear(columns[:cap(columns)])
	pages, _ := catalog.Pages(c[0])
	for _, p := range pages {
		clear(p[:cap(p)])
	}
	if !reflect.DeepEqual(all(c[0]), all(spare(shared))) || !alike(c[0], want) {
		t.Error("what was asked of is changed")
	}
	again, _ := catalog.Find(c, "t")
	if !alike(again, want) {
		t.Errorf("%+v", again)
	}
}
