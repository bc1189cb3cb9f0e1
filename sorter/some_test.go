package sorter_test

import (
	"math/rand"
	"slices"
	"strings"
	"testing"

	"commissary/api"
	"commissary/disk"
	"commissary/ledger"
	"commissary/page"
	"commissary/row"
	"commissary/sorter"
	"commissary/spill"
	"commissary/value"
)

// newPlace is an account of so many pages, under one that has some more, and a disk.
func newPlace(t testing.TB, room, left int, faults ...int) spill.Place {
	t.Helper()
	d, e := disk.New(room, faults)
	wantErr(t, "disk.New", e, api.OK)
	l, e := ledger.New(left + 2)
	wantErr(t, "ledger.New", e, api.OK)
	n, e := l.Open(0, left+1)
	wantErr(t, "Open", e, api.OK)
	wantErr(t, "Take", l.Take(n, 1), api.OK) // what is held ahead is not sorted with
	return spill.Place{Disk: d, Ledger: l, Account: n}
}

func wantErr(t testing.TB, what string, got, want api.Errno) {
	t.Helper()
	if got != want {
		t.Fatalf("%s: error %d, not %d", what, got, want)
	}
}

// wantHeld asks that no more is held than newPlace did, and which files there are.
func wantHeld(t testing.TB, p spill.Place, files ...int) {
	t.Helper()
	if n := p.Ledger.Total(); n != 1 {
		t.Fatalf("%d pages are held, not 1", n)
	}
	if l := p.Disk.Files(); !slices.Equal(l, files) {
		t.Fatalf("files %v, not %v", l, files)
	}
}

func same(a, b [][]api.Value) bool {
	return slices.EqualFunc(a, b, row.Same)
}

func num(l ...int) []api.Value {
	var r []api.Value
	for _, n := range l {
		r = append(r, value.Int(n))
	}
	return r
}

// full is a row of an int that fills a page alone.
func full(n int) []api.Value {
	w := value.Text(strings.Repeat("w", api.MaxText))
	return []api.Value{value.Int(n), w, w, w, value.Text(strings.Repeat("w", api.MaxWidth-9-3*66-2))}
}

// fulls is rows that fill a page each.
func fulls(l ...int) [][]api.Value {
	var rows [][]api.Value
	for _, n := range l {
		rows = append(rows, full(n))
	}
	return rows
}

// mixed is 0 to n - 1 in an order that is always the same.
func mixed(n int) []int {
	return rand.New(rand.NewSource(int64(n))).Perm(n)
}

// stands is the order of the document, counted place by place.
func stands(a, b []api.Value, by []int, down []bool) int {
	for i, c := range by {
		x, y := value.Null(), value.Null()
		if 0 <= c && c < len(a) {
			x = a[c]
		}
		if 0 <= c && c < len(b) {
			y = b[c]
		}
		n := value.Compare(x, y)
		if i < len(down) && down[i] {
			n = -n
		}
		if n != 0 {
			return n
		}
	}
	for i := range min(len(a), len(b)) {
		if n := value.Compare(a[i], b[i]); n != 0 {
			return n
		}
	}
	return len(a) - len(b)
}

// sorted is the rows put in one by one where they stand, each once if once.
func sorted(l [][]api.Value, by []int, down []bool, once bool) [][]api.Value {
	var out [][]api.Value
	for _, r := range l {
		i, there := slices.BinarySearchFunc(out, r, func(a, b []api.Value) int { return stands(a, b, by, down) })
		if !there || !once {
			out = slices.Insert(out, i, r)
		}
	}
	return out
}

// write is a new file of these rows, and how many pages it has.
func write(t testing.TB, p spill.Place, l [][]api.Value) (int, int) {
	t.Helper()
	file, e := p.Write(l)
	wantErr(t, "Write", e, api.OK)
	size, e := p.Disk.Size(file)
	wantErr(t, "Size", e, api.OK)
	return file, size
}

// wantRows asks for the rows of a file, its pages each as full as can be.
func wantRows(t testing.TB, p spill.Place, file int, want [][]api.Value) {
	t.Helper()
	got, e := p.All(file)
	if e != api.OK || !same(got, want) {
		t.Fatalf("All(%d) = %v, %d, not %v", file, got, e, want)
	}
	pages, e := page.Fill(want)
	wantErr(t, "Fill", e, api.OK)
	if n, e := p.Disk.Size(file); n != len(pages) || e != api.OK {
		t.Fatalf("Size(%d) = %d, %d, not %d", file, n, e, len(pages))
	}
}

// wantSorted sorts a file of l, and asks for all that the document promises of it.
func wantSorted(t testing.TB, p spill.Place, l [][]api.Value, by []int, down []bool, once bool) {
	t.Helper()
	file, pages := write(t, p, l)
	left, ahead := p.Left(), p.Disk.Meter()
	got, e := sorter.Sort(p, file, by, down, once)
	wantErr(t, "Sort", e, api.OK)
	wantHeld(t, p, file, got)
	if n := p.Ledger.Peak(p.Account); n > 1+left {
		t.Fatalf("%d pages were held of %d that were left", n-1, left)
	}
	m := p.Disk.Meter()
	if n, most := m.Reads-ahead.Reads+m.Writes-ahead.Writes, sorter.Bound(pages, left); n > most {
		t.Fatalf("%d pages were read and written, of %d pages in %d, not %d", n, pages, left, most)
	}
	if n, most := m.Peak-pages, 6*pages+4; n > most {
		t.Fatalf("%d pages more were on the disk, of %d pages in %d, not %d", n, pages, left, most)
	}
	wantRows(t, p, file, l)
	wantRows(t, p, got, sorted(l, by, down, once))
	p.Remove(file, got)
}
