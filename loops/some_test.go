package loops_test

import (
	"slices"
	"strings"
	"testing"

	"commissary/api"
	"commissary/disk"
	"commissary/ledger"
	"commissary/loops"
	"commissary/page"
	"commissary/row"
	"commissary/spill"
	"commissary/value"
)

var kinds = []int{api.JoinInner, api.JoinLeft, api.JoinSemi, api.JoinAnti}

// newPlace is an account that holds a page and has so many left, under one that has some more, and a disk.
func newPlace(t testing.TB, room, left int, faults ...int) spill.Place {
	t.Helper()
	d, e := disk.New(room, faults)
	wantErr(t, "disk.New", e, api.OK)
	l, e := ledger.New(left + 3)
	wantErr(t, "ledger.New", e, api.OK)
	n, e := l.Open(0, left+1)
	wantErr(t, "Open", e, api.OK)
	wantErr(t, "Take", l.Take(n, 1), api.OK)
	return spill.Place{Disk: d, Ledger: l, Account: n}
}

// beside is the account above a place's, which files are made and looked at by.
func beside(p spill.Place) spill.Place {
	p.Account = 0
	return p
}

func wantErr(t testing.TB, what string, got, want api.Errno) {
	t.Helper()
	if got != want {
		t.Fatalf("%s: error %d, not %d", what, got, want)
	}
}

// wantHeld asks how many pages are held, newPlace's among them, and which files there are.
func wantHeld(t testing.TB, p spill.Place, held int, files ...int) {
	t.Helper()
	if n := p.Ledger.Total(); n != held {
		t.Fatalf("%d pages are held, not %d", n, held)
	}
	if l := p.Disk.Files(); !slices.Equal(l, files) {
		t.Fatalf("files %v, not %v", l, files)
	}
}

func same(a, b [][]api.Value) bool {
	return slices.EqualFunc(a, b, row.Same)
}

func num(l ...int) []api.Value {
	var r []api.Value
	for _, n := range l {
		r = append(r, value.Int(n))
	}
	return r
}

// nums is a row of one int each.
func nums(l ...int) [][]api.Value {
	var rows [][]api.Value
	for _, n := range l {
		rows = append(rows, num(n))
	}
	return rows
}

// half is a row of an int that fills half a page, so that two of them fit in, and three don't.
func half(n int) []api.Value {
	return []api.Value{value.Int(n), value.Text(strings.Repeat("h", 64)), value.Text(strings.Repeat("h", 40))}
}

// halves is the rows of from to to - 1 that fill half a page each.
func halves(from, to int) [][]api.Value {
	var rows [][]api.Value
	for n := from; n < to; n++ {
		rows = append(rows, half(n))
	}
	return rows
}

func write(t testing.TB, p spill.Place, l [][]api.Value) int {
	t.Helper()
	file, e := beside(p).Write(l)
	wantErr(t, "Write", e, api.OK)
	return file
}

func newWriter(t testing.TB, p spill.Place) *spill.Writer {
	t.Helper()
	w, e := p.Writer()
	wantErr(t, "Writer", e, api.OK)
	return w
}

// odd is a new file of the rows, behind which stands what is no page.
func odd(t testing.TB, p spill.Place, l [][]api.Value) int {
	t.Helper()
	file := write(t, p, l)
	wantErr(t, "Append", p.Disk.Append(file, slices.Repeat([]byte{9}, api.PageSize)), api.OK)
	return file
}

func size(t testing.TB, p spill.Place, file int) int {
	t.Helper()
	n, e := p.Disk.Size(file)
	wantErr(t, "Size", e, api.OK)
	return n
}

func rows(t testing.TB, p spill.Place, file int) [][]api.Value {
	t.Helper()
	l, e := beside(p).All(file)
	wantErr(t, "All", e, api.OK)
	return l
}

// wantRows asks for the rows of a file in any order, its pages each as full as can be.
func wantRows(t testing.TB, p spill.Place, file int, want [][]api.Value) {
	t.Helper()
	got := rows(t, p, file)
	if !same(row.Sort(got), row.Sort(want)) {
		t.Fatalf("file %d: %v, not %v", file, row.Sort(got), row.Sort(want))
	}
	pages, e := page.Fill(got)
	wantErr(t, "Fill", e, api.OK)
	if n := size(t, p, file); n != len(pages) {
		t.Fatalf("file %d: %d pages, not %d", file, n, len(pages))
	}
}

func col(place int) api.Expr {
	return api.Expr{Kind: api.ExprCol, Col: "c", N: place}
}

func lit(v api.Value) api.Expr {
	return api.Expr{Kind: api.ExprLit, V: v}
}

func op(n int, l ...api.Expr) api.Expr {
	return api.Expr{Kind: api.ExprOp, N: n, L: l}
}

var always = lit(value.Bool(true))

// equal is an On: two columns of both rows are the same.
func equal(a, b int) api.Expr {
	return op(api.OpEq, col(a), col(b))
}

// meets tells whether the first values of two rows are the same, and not null.
func meets(left, right []api.Value) bool {
	return left[0].Kind != api.KindNull && left[0] == right[0]
}

// told is what comes of two sides.
func told(join int, left, right [][]api.Value, holds func(left, right []api.Value) bool, wide int) [][]api.Value {
	var l [][]api.Value
	for _, a := range left {
		met := false
		for _, b := range right {
			if !holds(a, b) {
				continue
			}
			met = true
			if join == api.JoinInner || join == api.JoinLeft {
				l = append(l, slices.Concat(a, b))
			}
		}
		switch {
		case join == api.JoinLeft && !met:
			l = append(l, slices.Concat(a, make([]api.Value, wide)))
		case join == api.JoinSemi && met, join == api.JoinAnti && !met:
			l = append(l, a)
		}
	}
	return l
}

// turns is how often the right side is read, if the left one's rows are kept in so many pages.
func turns(left [][]api.Value, kept int) int {
	n := 1
	for len(left) > 0 {
		fit := len(left)
		for pages, _ := page.Fill(left[:fit]); len(pages) > kept; pages, _ = page.Fill(left[:fit]) {
			fit--
		}
		if left = left[fit:]; len(left) > 0 {
			n++
		}
	}
	return n
}

// wantInto does a job of a place with so many left, whose files are of these rows, and asks for all that the document promises of it.
func wantInto(t testing.TB, j loops.Job, left, right, want [][]api.Value) {
	t.Helper()
	p := j.Place
	ahead := p.Disk.Files()
	w := newWriter(t, beside(p))
	was, free := p.Disk.Meter(), p.Left()
	wantErr(t, "Into", loops.Into(j, w), api.OK)
	done, e := w.Done()
	wantErr(t, "Done", e, api.OK)
	wantHeld(t, p, 1, append(ahead, done)...)
	m := p.Disk.Meter()
	reads := size(t, p, j.Left) + turns(left, free-2)*size(t, p, j.Right)
	if n, most := m.Reads-was.Reads, loops.Reads(size(t, p, j.Left), size(t, p, j.Right), free); n != reads || n > most {
		t.Fatalf("%d pages were read, not %d, at most %d", n, reads, most)
	}
	if n := m.Writes - was.Writes; n != size(t, p, done) {
		t.Fatalf("%d pages were written, not %d", n, size(t, p, done))
	}
	if n := p.Ledger.Peak(p.Account); n != 1+free {
		t.Fatalf("%d pages were held, of %d that were left", n-1, free)
	}
	wantRows(t, p, done, want)
	if !same(rows(t, p, j.Left), left) || !same(rows(t, p, j.Right), right) {
		t.Fatal("a side is not what it was")
	}
	p.Remove(done)
}
