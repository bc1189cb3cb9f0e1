package spill_test

import (
	"bytes"
	"math"
	"math/rand"
	"slices"
	"strings"
	"testing"

	"commissary/api"
	"commissary/ledger"
	"commissary/page"
	"commissary/spill"
	"commissary/value"
)

// P19.2: what Size refuses goes ahead of what Take refuses.
func TestNoReader(t *testing.T) {
	p := newPlace(t, 10, 1)
	empty, _ := ledger.New(0)
	f := file(t, p.Disk, paged(t, num(1)))
	gone := file(t, p.Disk)
	p.Remove(gone)
	for _, c := range []struct {
		p    spill.Place
		file int
		want api.Errno
	}{
		{spill.Place{}, f, api.ErrClosed},
		{spill.Place{Disk: p.Disk}, f, api.ErrClosed},
		{spill.Place{Disk: p.Disk}, gone, api.ErrNone},
		{spill.Place{Ledger: p.Ledger}, f, api.ErrClosed},
		{spill.Place{Ledger: empty}, f, api.ErrClosed},
		{spill.Place{Disk: p.Disk, Ledger: empty}, f, api.ErrBudget},
		{spill.Place{Disk: p.Disk, Ledger: empty}, gone, api.ErrNone},
		{spill.Place{Disk: p.Disk, Ledger: p.Ledger, Account: 3}, f, api.ErrNone},
		{p, gone, api.ErrNone},
		{p, 0, api.ErrNone},
		{p, -1, api.ErrNone},
		{p, math.MaxInt, api.ErrNone},
		{p, math.MinInt, api.ErrNone},
	} {
		if r, e := c.p.Reader(c.file); r != nil || e != c.want {
			t.Error(c, r, e)
		}
		if l, e := c.p.All(c.file); len(l) != 0 || e != c.want {
			t.Error(c, l, e)
		}
		wantHeld(t, p, 0, f)
	}
	if n := p.Disk.Meter().Reads; n != 0 {
		t.Fatal(n)
	}
}

// P19.2: a reader holds a page, and reads each page when its first row is asked for.
func TestNext(t *testing.T) {
	p := newPlace(t, 10, 2)
	rows := many(0, 2*inPage+1)
	f, e := p.Write(rows)
	wantErr(t, "Write", e, api.OK)
	r := newReader(t, p, f)
	wantHeld(t, p, 1, f)
	for i, want := range rows {
		if n := p.Disk.Meter().Reads; n != (i+inPage-1)/inPage {
			t.Fatal(n, "pages were read for", i, "rows")
		}
		wantNext(t, r, want)
	}
	for range 3 {
		wantNoNext(t, r, api.OK)
	}
	wantHeld(t, p, 1, f)
	if n := p.Disk.Meter().Reads; n != 3 || p.Ledger.Most() != 1 {
		t.Fatal(n, p.Ledger.Most())
	}
	r.Close()
	wantHeld(t, p, 0, f)
}

// P19.2: what is closed tells no row any more, and gives its page back once.
func TestClose(t *testing.T) {
	p := newPlace(t, 10, 3)
	f, _ := p.Write(many(0, 2*inPage))
	r := newReader(t, p, f)
	other := newReader(t, p, f)
	wantNext(t, r, num(0))
	for range 3 {
		r.Close()
		wantHeld(t, p, 1, f)
		wantNoNext(t, r, api.OK)
	}
	p.Remove(f)
	wantNoNext(t, r, api.OK)
	wantNoNext(t, other, api.ErrNone)
	other.Close()
	wantHeld(t, p, 0)
	wantNoNext(t, other, api.OK)
}

// P19.2: a file without pages, and one whose pages have no rows, has none.
func TestNextOfNone(t *testing.T) {
	p := newPlace(t, 10, 1)
	f := file(t, p.Disk)
	r := newReader(t, p, f)
	wantNoNext(t, r, api.OK)
	wantErr(t, "Append", p.Disk.Append(f, page.New()), api.OK)
	wantErr(t, "Append", p.Disk.Append(f, page.New()), api.OK)
	wantNoNext(t, r, api.OK)
	wantErr(t, "Append", p.Disk.Append(f, paged(t, num(5), []api.Value{})), api.OK)
	wantErr(t, "Append", p.Disk.Append(f, page.New()), api.OK)
	wantNext(t, r, num(5))
	wantNext(t, r, []api.Value{})
	wantNoNext(t, r, api.OK)
	if n := p.Disk.Meter().Reads; n != 4 {
		t.Fatal(n)
	}
}

// P19.2: pages that are appended while a file is read are read, too.
func TestNextOfMore(t *testing.T) {
	p := newPlace(t, 10, 1)
	f := file(t, p.Disk, paged(t, num(1), num(2)))
	r := newReader(t, p, f)
	wantNext(t, r, num(1))
	wantErr(t, "Append", p.Disk.Append(f, paged(t, num(3))), api.OK)
	wantNext(t, r, num(2))
	wantNext(t, r, num(3))
	wantNoNext(t, r, api.OK)
	wantNoNext(t, r, api.OK)
	wantErr(t, "Append", p.Disk.Append(f, paged(t, num(4))), api.OK)
	wantNext(t, r, num(4))
	wantNoNext(t, r, api.OK)
	r.Close()
	wantErr(t, "Append", p.Disk.Append(f, paged(t, num(5))), api.OK)
	wantNoNext(t, r, api.OK)
}

// P19.2: of a file that is deleted while it is read the rows of the page that was read are told.
func TestNextOfDeleted(t *testing.T) {
	p := newPlace(t, 10, 1)
	f, _ := p.Write(many(0, 2*inPage))
	r := newReader(t, p, f)
	wantNext(t, r, num(0))
	p.Remove(f)
	for i := 1; i < inPage; i++ {
		wantNext(t, r, num(i))
	}
	for range 3 {
		wantNoNext(t, r, api.ErrNone)
	}
	wantHeld(t, p, 1)
	r.Close()
	wantHeld(t, p, 0)
}

// P19.2: a file that is deleted behind its last row, or ahead of its first one, is not there either.
func TestNextOfGone(t *testing.T) {
	p := newPlace(t, 10, 2)
	f, empty := file(t, p.Disk, paged(t, num(1))), file(t, p.Disk)
	r, s := newReader(t, p, f), newReader(t, p, empty)
	wantNext(t, r, num(1))
	wantNoNext(t, r, api.OK)
	wantNoNext(t, s, api.OK)
	p.Remove(f, empty)
	wantNoNext(t, r, api.ErrNone)
	wantNoNext(t, s, api.ErrNone)
}

// P19.2: pages that are no pages of rows are refused, behind the rows of those ahead.
func TestNextOfNoPage(t *testing.T) {
	p := newPlace(t, 10, 1)
	f := file(t, p.Disk, paged(t, num(1)), bytes.Repeat([]byte{7}, api.PageSize), paged(t, num(2)))
	r := newReader(t, p, f)
	wantNext(t, r, num(1))
	for range 3 {
		wantNoNext(t, r, api.ErrPage)
	}
	wantHeld(t, p, 1, f)
	r.Close()
	if l, e := p.All(f); len(l) != 0 || e != api.ErrPage {
		t.Fatal(l, e)
	}
	wantHeld(t, p, 0, f)
}

// P19.2: a page whose reading was at fault is asked for again: no row is passed over.
func TestNextAtFault(t *testing.T) {
	p := newPlace(t, 10, 1, 3, 5, 6)
	f, _ := p.Write(many(0, 2*inPage))
	r := newReader(t, p, f)
	wantNoNext(t, r, api.ErrFault)
	for i := range inPage {
		wantNext(t, r, num(i))
	}
	wantNoNext(t, r, api.ErrFault)
	wantNoNext(t, r, api.ErrFault)
	for i := range inPage {
		wantNext(t, r, num(inPage+i))
	}
	wantNoNext(t, r, api.OK)
}

// P19.2: nil readers, and those that no call made.
func TestNilReader(t *testing.T) {
	for _, r := range []*spill.Reader{nil, {}} {
		wantNoNext(t, r, api.ErrClosed)
		r.Close()
		wantNoNext(t, r, api.ErrClosed)
	}
}

// P19.2: all rows, with one page left and with none; the page is given back in any case.
func TestAll(t *testing.T) {
	p := newPlace(t, 10, 1, 5)
	rows := many(0, 2*inPage+1)
	f, e := p.Write(rows)
	wantErr(t, "Write", e, api.OK)
	for _, want := range []api.Errno{api.ErrFault, api.OK, api.OK} {
		l, e := p.All(f)
		if e != want || e == api.OK && !same(l, rows) || e != api.OK && len(l) != 0 {
			t.Fatal(len(l), e, want)
		}
		wantHeld(t, p, 0, f)
	}
	r := newReader(t, p, f)
	if l, e := p.All(f); len(l) != 0 || e != api.ErrBudget {
		t.Fatal(l, e)
	}
	wantHeld(t, p, 1, f)
	r.Close()
	wantRows(t, p, f, rows)
}

// P19.2: those files that are there are deleted, whatever the others are.
func TestRemove(t *testing.T) {
	p := newPlace(t, 10, 1)
	for range 5 {
		file(t, p.Disk, page.New())
	}
	p.Remove()
	wantHeld(t, p, 0, 1, 2, 3, 4, 5)
	p.Remove(2, 2)
	wantHeld(t, p, 0, 1, 3, 4, 5)
	p.Remove(2, 9, 0, -1, 3, math.MinInt, 5, math.MaxInt)
	wantHeld(t, p, 0, 1, 4)
	l := []int{4, 4, 1}
	p.Remove(l...)
	wantHeld(t, p, 0)
	if n := p.Disk.Meter().Used; n != 0 || !slices.Equal(l, []int{4, 4, 1}) {
		t.Fatal(n, l)
	}
	spill.Place{}.Remove(1)
	spill.Place{Ledger: p.Ledger}.Remove(1, 2)
}

// P19.2 (R3): rows that are told share nothing with what is told later.
func TestReaderApart(t *testing.T) {
	p := newPlace(t, 10, 2)
	rows := [][]api.Value{{value.Int(1), value.Int(2)}, {value.Int(3), value.Int(4)}, {value.Text("a")}}
	f, _ := p.Write(rows)
	r := newReader(t, p, f)
	for _, want := range rows {
		got, _, _ := r.Next()
		if !same([][]api.Value{got}, [][]api.Value{want}) {
			t.Fatal(got, want)
		}
		spoil(got)
	}
	for range 2 {
		l, e := p.All(f)
		wantErr(t, "All", e, api.OK)
		for i, got := range l {
			if !same([][]api.Value{got}, rows[i:i+1]) {
				t.Fatal(got, rows[i])
			}
			spoil(got)
		}
		clear(l[:cap(l)])
	}
}

// spoil overwrites a row, and the room behind its end.
func spoil(r []api.Value) {
	r = r[:cap(r)]
	for i := range r {
		r[i] = value.Int(-1)
	}
}

// P19.3: two files that are written in turn, and read in turn, are apart.
func TestInTurn(t *testing.T) {
	p := newPlace(t, 200, 4)
	a, b := newWriter(t, p), newWriter(t, p)
	for i := range 200 {
		put(t, a, num(i))
		put(t, b, num(-i), wide(t, 100))
	}
	fa, fb := done(t, a), done(t, b)
	r, s := newReader(t, p, fa), newReader(t, p, fb)
	for i := range 200 {
		wantNext(t, r, num(i))
		wantNext(t, s, num(-i))
		wantNext(t, s, wide(t, 100))
	}
	wantNoNext(t, r, api.OK)
	wantNoNext(t, s, api.OK)
	r.Close()
	s.Close()
	wantHeld(t, p, 0, fa, fb)
}

// drawn is a row of any kinds and of any length that fits into a page.
func drawn(rnd *rand.Rand) []api.Value {
	var r []api.Value
	for range rnd.Intn(4) {
		switch rnd.Intn(4) {
		case 0:
			r = append(r, value.Null())
		case 1:
			r = append(r, value.Bool(rnd.Intn(2) == 1))
		case 2:
			r = append(r, value.Int(rnd.Intn(2*api.MaxInt)-api.MaxInt))
		default:
			r = append(r, value.Text(strings.Repeat("t", rnd.Intn(api.MaxText+1))))
		}
	}
	return r
}

// P19.3: what is written is read, in order, page for page as page.Fill has it; behind all no more is held than ahead.
func TestDrawn(t *testing.T) {
	rnd := rand.New(rand.NewSource(19))
	p := newPlace(t, api.MaxDisk, 1)
	for range 100 {
		var l [][]api.Value
		for range rnd.Intn(100) {
			l = append(l, drawn(rnd))
		}
		f, e := p.Write(l)
		wantErr(t, "Write", e, api.OK)
		wantRows(t, p, f, l)
		wantHeld(t, p, 0, f)
		p.Remove(f)
	}
	if p.Disk.Meter().Used != 0 || p.Ledger.Most() != 1 {
		t.Fatal(p.Disk.Meter(), p.Ledger.Most())
	}
}

// P19.2, P19.3: at each deed that is at fault, and at each lack of room, nothing is left.
func TestEachFault(t *testing.T) {
	rows := many(0, 4*inPage)
	for at := 1; at <= 9; at++ {
		p := newPlace(t, 4, 1, at)
		f, e := p.Write(rows)
		if (e == api.ErrFault) != (at <= 4) || (e == api.OK) != (at > 4) {
			t.Fatal(at, f, e)
		}
		if e != api.OK {
			wantHeld(t, p, 0)
			continue
		}
		l, e := p.All(f)
		if (e == api.ErrFault) != (at <= 8) || len(l) != 0 && e != api.OK {
			t.Fatal(at, len(l), e)
		}
		wantHeld(t, p, 0, f)
	}
	for room := range 5 {
		p := newPlace(t, room, 1)
		f, e := p.Write(rows)
		if (e == api.ErrFull) != (room < 4) {
			t.Fatal(room, f, e)
		}
		if e != api.OK {
			wantHeld(t, p, 0)
		}
	}
}
