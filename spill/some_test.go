package spill_test

import (
	"slices"
	"strings"
	"testing"

	"commissary/api"
	"commissary/disk"
	"commissary/ledger"
	"commissary/page"
	"commissary/row"
	"commissary/spill"
	"commissary/value"
)

// newPlace is account 0 of a ledger of so many pages, and a disk.
func newPlace(t testing.TB, room, grant int, faults ...int) spill.Place {
	t.Helper()
	d, e := disk.New(room, faults)
	if e != api.OK {
		t.Fatal("disk.New", e)
	}
	l, e := ledger.New(grant)
	if e != api.OK {
		t.Fatal("ledger.New", e)
	}
	return spill.Place{Disk: d, Ledger: l}
}

func newWriter(t testing.TB, p spill.Place) *spill.Writer {
	t.Helper()
	w, e := p.Writer()
	if e != api.OK || w == nil {
		t.Fatal("Writer", w, e)
	}
	return w
}

func newReader(t testing.TB, p spill.Place, file int) *spill.Reader {
	t.Helper()
	r, e := p.Reader(file)
	if e != api.OK || r == nil {
		t.Fatal("Reader", r, e)
	}
	return r
}

func num(n int) []api.Value { return []api.Value{value.Int(n)} }

// wide is a row of one text over and over and one more, of just so many bytes, 3 to 253.
func wide(t testing.TB, size int) []api.Value {
	t.Helper()
	var r []api.Value
	for left := size - 1; left > 0; {
		n := min(left, 2+api.MaxText)
		if rest := left - n; rest == 1 {
			n-- // a text needs two bytes at least
		}
		r = append(r, value.Text(strings.Repeat("w", n-2)))
		left -= n
	}
	if row.Size(r) != size {
		t.Fatal("a row of", row.Size(r), "bytes, not", size)
	}
	return r
}

// many is rows of one int each, 23 of which fill a page.
func many(from, to int) [][]api.Value {
	var l [][]api.Value
	for n := from; n < to; n++ {
		l = append(l, num(n))
	}
	return l
}

const inPage = 23

func wantErr(t testing.TB, what string, got, want api.Errno) {
	t.Helper()
	if got != want {
		t.Fatalf("%s: error %d, not %d", what, got, want)
	}
}

func same(a, b [][]api.Value) bool {
	return slices.EqualFunc(a, b, row.Same)
}

func put(t testing.TB, w *spill.Writer, l ...[]api.Value) {
	t.Helper()
	for _, r := range l {
		wantErr(t, "Put", w.Put(r), api.OK)
	}
}

func done(t testing.TB, w *spill.Writer) int {
	t.Helper()
	file, e := w.Done()
	wantErr(t, "Done", e, api.OK)
	return file
}

func wantNotDone(t testing.TB, w *spill.Writer, want api.Errno) {
	t.Helper()
	if file, e := w.Done(); file != 0 || e != want {
		t.Fatalf("Done() = %d, %d, not 0, %d", file, e, want)
	}
}

func wantNext(t testing.TB, r *spill.Reader, want []api.Value) {
	t.Helper()
	if got, there, e := r.Next(); !row.Same(got, want) || !there || e != api.OK {
		t.Fatalf("Next() = %v, %v, %d, not %v", got, there, e, want)
	}
}

// wantNoNext asks for a Next that tells no row, with an error or without one.
func wantNoNext(t testing.TB, r *spill.Reader, want api.Errno) {
	t.Helper()
	if got, there, e := r.Next(); len(got) != 0 || there || e != want {
		t.Fatalf("Next() = %v, %v, %d, not error %d", got, there, e, want)
	}
}

// wantRows asks for the rows of a file, and that its pages are as page.Fill has them.
func wantRows(t testing.TB, p spill.Place, file int, want [][]api.Value) {
	t.Helper()
	pages, e := page.Fill(want)
	wantErr(t, "Fill", e, api.OK)
	size, e := p.Disk.Size(file)
	if e != api.OK || size != len(pages) {
		t.Fatalf("Size(%d) = %d, %d, not %d", file, size, e, len(pages))
	}
	for i, full := range pages {
		if got, e := p.Disk.Read(file, i); e != api.OK || !slices.Equal(got, full) {
			t.Fatalf("page %d of file %d: %v, %d, not %v", i, file, got, e, full)
		}
	}
	if got, e := p.All(file); e != api.OK || !same(got, want) {
		t.Fatalf("All(%d) = %v, %d, not %v", file, got, e, want)
	}
}

// wantHeld asks how many pages are held, and which files there are.
func wantHeld(t testing.TB, p spill.Place, held int, files ...int) {
	t.Helper()
	if n := p.Ledger.Total(); n != held {
		t.Fatalf("%d pages are held, not %d", n, held)
	}
	if l := p.Disk.Files(); !slices.Equal(l, files) {
		t.Fatalf("files %v, not %v", l, files)
	}
}

// file is a new file of these pages, whatever they are.
func file(t testing.TB, d *disk.Disk, pages ...[]byte) int {
	t.Helper()
	n, e := d.Create()
	wantErr(t, "Create", e, api.OK)
	for _, p := range pages {
		wantErr(t, "Append", d.Append(n, p), api.OK)
	}
	return n
}

// paged is one page of these rows.
func paged(t testing.TB, l ...[]api.Value) []byte {
	t.Helper()
	pages, e := page.Fill(l)
	if e != api.OK || len(pages) != 1 {
		t.Fatal("Fill", len(pages), e)
	}
	return pages[0]
}
