package fanout_test

import (
	"math/rand"
	"slices"
	"strings"
	"testing"

	"commissary/api"
	"commissary/disk"
	"commissary/hash"
	"commissary/ledger"
	"commissary/page"
	"commissary/row"
	"commissary/spill"
	"commissary/value"
)

// newPlace is an account that holds a page and has so many left, under one that has some more, and a disk.
func newPlace(t testing.TB, room, left int, faults ...int) spill.Place {
	t.Helper()
	d, e := disk.New(room, faults)
	wantErr(t, "disk.New", e, api.OK)
	l, e := ledger.New(left + 3)
	wantErr(t, "ledger.New", e, api.OK)
	n, e := l.Open(0, left+1)
	wantErr(t, "Open", e, api.OK)
	wantErr(t, "Take", l.Take(n, 1), api.OK)
	return spill.Place{Disk: d, Ledger: l, Account: n}
}

// beside is the account above a place's, which files are made and looked at by.
func beside(p spill.Place) spill.Place {
	p.Account = 0
	return p
}

func wantErr(t testing.TB, what string, got, want api.Errno) {
	t.Helper()
	if got != want {
		t.Fatalf("%s: error %d, not %d", what, got, want)
	}
}

// wantHeld asks that no more is held than newPlace did, and which files there are.
func wantHeld(t testing.TB, p spill.Place, files ...int) {
	t.Helper()
	if n := p.Ledger.Total(); n != 1 {
		t.Fatalf("%d pages are held, not 1", n)
	}
	if l := p.Disk.Files(); !slices.Equal(l, files) {
		t.Fatalf("files %v, not %v", l, files)
	}
}

func same(a, b [][]api.Value) bool {
	return slices.EqualFunc(a, b, row.Same)
}

func num(l ...int) []api.Value {
	var r []api.Value
	for _, n := range l {
		r = append(r, value.Int(n))
	}
	return r
}

// full is a row of an int that fills a page alone.
func full(n int) []api.Value {
	w := value.Text(strings.Repeat("w", api.MaxText))
	return []api.Value{value.Int(n), w, w, w, value.Text(strings.Repeat("w", api.MaxWidth-9-3*66-2))}
}

// fulls is rows of from to to - 1 that fill a page each.
func fulls(from, to int) [][]api.Value {
	var rows [][]api.Value
	for n := from; n < to; n++ {
		rows = append(rows, full(n))
	}
	return rows
}

// write is a new file of these rows.
func write(t testing.TB, p spill.Place, l [][]api.Value) int {
	t.Helper()
	file, e := beside(p).Write(l)
	wantErr(t, "Write", e, api.OK)
	return file
}

// odd is a new file of the rows, behind which stands what is no page.
func odd(t testing.TB, p spill.Place, l [][]api.Value) int {
	t.Helper()
	file := write(t, p, l)
	wantErr(t, "Append", p.Disk.Append(file, slices.Repeat([]byte{9}, api.PageSize)), api.OK)
	return file
}

// wantRows asks for the rows of a file, its pages each as full as can be.
func wantRows(t testing.TB, p spill.Place, file int, want [][]api.Value) {
	t.Helper()
	got, e := beside(p).All(file)
	if e != api.OK || !same(got, want) {
		t.Fatalf("All(%d) = %v, %d, not %v", file, got, e, want)
	}
	pages, e := page.Fill(want)
	wantErr(t, "Fill", e, api.OK)
	if n, e := p.Disk.Size(file); n != len(pages) || e != api.OK {
		t.Fatalf("Size(%d) = %d, %d, not %d", file, n, e, len(pages))
	}
}

func newWriter(t testing.TB, p spill.Place) *spill.Writer {
	t.Helper()
	w, e := p.Writer()
	wantErr(t, "Writer", e, api.OK)
	return w
}

// key is the values of r at cols.
func key(r []api.Value, cols []int) []api.Value {
	var k []api.Value
	for _, c := range cols {
		k = append(k, r[c])
	}
	return k
}

// wantParts asks for fan files, each with those rows of l that hash.Part names it for, in their order.
func wantParts(t testing.TB, p spill.Place, parts []int, l [][]api.Value, seed uint64, level, fan int, cols []int) {
	t.Helper()
	want := make([][][]api.Value, fan)
	for _, r := range l {
		i, e := hash.Part(seed, level, fan, key(r, cols))
		wantErr(t, "Part", e, api.OK)
		want[i] = append(want[i], r)
	}
	if len(parts) != fan {
		t.Fatalf("%d parts, not %d", len(parts), fan)
	}
	for i, file := range parts {
		wantRows(t, p, file, want[i])
	}
}

// drawn is so many rows of an int below some, a bool and a text of any length.
func drawn(rnd *rand.Rand, n, some int) [][]api.Value {
	var l [][]api.Value
	for range n {
		first := value.Int(rnd.Intn(some))
		if rnd.Intn(9) == 0 {
			first = value.Null()
		}
		l = append(l, []api.Value{first, value.Bool(rnd.Intn(2) == 0), value.Text(strings.Repeat("t", rnd.Intn(api.MaxText+1)))})
	}
	return l
}
