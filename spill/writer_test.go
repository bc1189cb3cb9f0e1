package spill_test

import (
	"slices"
	"testing"

	"commissary/api"
	"commissary/ledger"
	"commissary/page"
	"commissary/row"
	"commissary/spill"
	"commissary/value"
)

// P19.1: what the account has left, and nothing of an account or a ledger that is not there.
func TestLeft(t *testing.T) {
	p := newPlace(t, 10, 5)
	n, _ := p.Ledger.Open(0, 3)
	under := spill.Place{Disk: p.Disk, Ledger: p.Ledger, Account: n}
	w := newWriter(t, under)
	for place, want := range map[spill.Place]int{
		p:                              2,
		under:                          2,
		{Ledger: p.Ledger, Account: n}: 2,
		{Disk: p.Disk, Ledger: p.Ledger, Account: 7}: 0,
		{Disk: p.Disk}: 0,
		{}:             0,
	} {
		if got := place.Left(); got != want {
			t.Error(place, got, want)
		}
	}
	w.Drop()
	if got := under.Left(); got != 3 {
		t.Error(got)
	}
}

// P19.1: of a place where no page can be taken, or no file made, no writer is, and nothing is held.
func TestNoWriter(t *testing.T) {
	p := newPlace(t, 10, 1)
	empty, _ := ledger.New(0)
	gone, _ := p.Ledger.Open(0, 1)
	wantErr(t, "Close", p.Ledger.Close(gone), api.OK)
	for place, want := range map[spill.Place]api.Errno{
		{}:                       api.ErrClosed,
		{Disk: p.Disk}:           api.ErrClosed,
		{Ledger: p.Ledger}:       api.ErrClosed,
		{Ledger: empty}:          api.ErrBudget,
		{p.Disk, empty, 0}:       api.ErrBudget,
		{p.Disk, p.Ledger, 7}:    api.ErrNone,
		{p.Disk, p.Ledger, -1}:   api.ErrNone,
		{p.Disk, p.Ledger, gone}: api.ErrNone,
		{nil, p.Ledger, gone}:    api.ErrNone,
	} {
		if w, e := place.Writer(); w != nil || e != want {
			t.Error(place, w, e, want)
		}
		if file, e := place.Write(many(0, 3)); file != 0 || e != want {
			t.Error(place, file, e, want)
		}
		wantHeld(t, p, 0)
	}
	newWriter(t, p)
	if w, e := p.Writer(); w != nil || e != api.ErrBudget {
		t.Error(w, e)
	}
	wantHeld(t, p, 1, 1)
}

// P19.1: a writer whose file can't be made gives its page back.
func TestWriterWithoutFile(t *testing.T) {
	p := newPlace(t, 10, 2)
	for range api.MaxTemps {
		p.Disk.Create()
	}
	for range 3 {
		if w, e := p.Writer(); w != nil || e != api.ErrFull {
			t.Fatal(w, e)
		}
		if n := p.Ledger.Total(); n != 0 {
			t.Fatal(n, "pages are held")
		}
	}
	p.Remove(5)
	w := newWriter(t, p)
	if file := done(t, w); file != api.MaxTemps+1 {
		t.Fatal(file)
	}
}

// P19.1: a writer holds one page; its file is there, and gets a page as soon as a row comes that does not fit.
func TestPut(t *testing.T) {
	p := newPlace(t, 10, 2)
	w := newWriter(t, p)
	wantHeld(t, p, 1, 1)
	for i, r := range many(0, 2*inPage+1) {
		if n := w.Len(); n != i {
			t.Fatal(n, i)
		}
		put(t, w, r)
		if n, _ := p.Disk.Size(1); n != i/inPage {
			t.Fatal(n, "pages of", i+1, "rows")
		}
	}
	wantHeld(t, p, 1, 1)
	if n := w.Len(); n != 2*inPage+1 {
		t.Fatal(n)
	}
	if file := done(t, w); file != 1 {
		t.Fatal(file)
	}
	wantHeld(t, p, 0, 1)
	if m := p.Disk.Meter(); m != (api.Meter{Writes: 3, Used: 3, Peak: 3}) || p.Ledger.Most() != 1 {
		t.Fatal(m, p.Ledger.Most())
	}
	wantRows(t, p, 1, many(0, 2*inPage+1))
}

// P19.1: what a row may not be, and what no page can hold, is not put, and spoils nothing.
func TestPutRefused(t *testing.T) {
	p := newPlace(t, 10, 1)
	w := newWriter(t, p)
	odd := [][]api.Value{{{Kind: 9}}, {value.Int(api.MaxInt + 1)}, make([]api.Value, api.MaxCols+1), {value.Null(), {Kind: api.KindBool, N: 2}}}
	good := [][]api.Value{{}, num(1), wide(t, api.MaxWidth), wide(t, api.MaxWidth), wide(t, 100), wide(t, 151), wide(t, 1), wide(t, 152), wide(t, 100), make([]api.Value, api.MaxCols)}
	for i, r := range good {
		for _, o := range odd {
			wantErr(t, "Put", w.Put(o), api.ErrRow)
		}
		for _, size := range []int{api.MaxWidth + 1, 500} {
			wantErr(t, "Put", w.Put(wide(t, size)), api.ErrLong)
		}
		if n := w.Len(); n != i {
			t.Fatal(n, i)
		}
		put(t, w, r)
	}
	// [] and 1, the two wide ones, 100 and 151, 1 and 152 (behind which 100 does not fit), the rest
	if n, _ := p.Disk.Size(1); n != 5 {
		t.Fatal(n)
	}
	wantRows(t, spill.Place{Disk: p.Disk, Ledger: newPlace(t, 0, 1).Ledger}, done(t, w), good)
	wantHeld(t, p, 0, 1)
}

// P19.1: a row that just fills what is left stays in the page; one byte more begins another one.
func TestPutFits(t *testing.T) {
	for size, pages := range map[int]int{150: 1, 151: 1, 152: 2, 153: 2} {
		p := newPlace(t, 10, 1)
		file, e := p.Write([][]api.Value{wide(t, 100), wide(t, size)})
		wantErr(t, "Write", e, api.OK)
		if n, _ := p.Disk.Size(file); n != pages {
			t.Error(size, n, pages)
		}
	}
}

// P19.1: of an Append that is refused within Put each further Put, and Done, is refused likewise.
func TestFaultInPut(t *testing.T) {
	for want, p := range map[api.Errno]spill.Place{
		api.ErrFault: newPlace(t, 10, 2, 2),
		api.ErrFull:  newPlace(t, 1, 2),
	} {
		w := newWriter(t, p)
		put(t, w, many(0, 2*inPage)...)
		for range 3 {
			wantErr(t, "Put", w.Put(num(5)), want)
			wantErr(t, "Put", w.Put([]api.Value{}), want)
			wantErr(t, "Put", w.Put([]api.Value{{Kind: 9}}), want)
			if n := w.Len(); n != 2*inPage {
				t.Fatal(n)
			}
		}
		wantHeld(t, p, 1, 1)
		wantNotDone(t, w, want)
		wantHeld(t, p, 0)
		wantNotDone(t, w, api.ErrClosed)
		wantErr(t, "Put", w.Put(num(5)), api.ErrClosed)
		w.Drop()
		wantHeld(t, p, 0)
		if n := w.Len(); n != 2*inPage {
			t.Fatal(n)
		}
	}
}

// P19.1: what is at fault is so with what was refused first, even if there is room again.
func TestFaultStays(t *testing.T) {
	p := newPlace(t, 2, 2)
	other := file(t, p.Disk, page.New(), page.New())
	w := newWriter(t, p)
	put(t, w, many(0, inPage)...)
	wantErr(t, "Put", w.Put(num(1)), api.ErrFull)
	p.Remove(other)
	wantErr(t, "Put", w.Put(num(1)), api.ErrFull)
	wantNotDone(t, w, api.ErrFull)
	wantHeld(t, p, 0)
	if n := p.Disk.Deeds(); n != 2 {
		t.Fatal(n)
	}
}

// P19.1: a writer at fault that is dropped leaves nothing.
func TestFaultDropped(t *testing.T) {
	p := newPlace(t, 0, 1)
	w := newWriter(t, p)
	put(t, w, many(0, inPage)...)
	wantErr(t, "Put", w.Put(num(1)), api.ErrFull)
	w.Drop()
	wantHeld(t, p, 0)
	wantNotDone(t, w, api.ErrClosed)
}

// P19.1: an Append that is refused within Done deletes the file, and gives the page back.
func TestFaultInDone(t *testing.T) {
	for want, p := range map[api.Errno]spill.Place{
		api.ErrFault: newPlace(t, 10, 1, 2),
		api.ErrFull:  newPlace(t, 1, 1),
	} {
		w := newWriter(t, p)
		put(t, w, many(0, inPage+1)...)
		wantNotDone(t, w, want)
		wantHeld(t, p, 0)
		wantNotDone(t, w, api.ErrClosed)
		if n := w.Len(); n != inPage+1 || p.Disk.Meter().Used != 0 {
			t.Fatal(n, p.Disk.Meter())
		}
	}
}

// P19.1: a file that others delete is one that nothing can be appended to.
func TestWriterFileGone(t *testing.T) {
	p := newPlace(t, 10, 1)
	w := newWriter(t, p)
	put(t, w, many(0, inPage)...)
	p.Remove(1)
	wantErr(t, "Put", w.Put(num(1)), api.ErrNone)
	wantErr(t, "Put", w.Put(num(1)), api.ErrNone)
	wantNotDone(t, w, api.ErrNone)
	wantHeld(t, p, 0)
}

// P19.1: a file of no rows has no pages, and needs no room.
func TestDoneOfNone(t *testing.T) {
	p := newPlace(t, 0, 1, 1)
	w := newWriter(t, p)
	if file := done(t, w); file != 1 || w.Len() != 0 {
		t.Fatal(file, w.Len())
	}
	wantHeld(t, p, 0, 1)
	wantRows(t, p, 1, nil)
	if n := p.Disk.Deeds(); n != 0 {
		t.Fatal(n)
	}
	if file, e := p.Write(nil); file != 2 || e != api.OK {
		t.Fatal(file, e)
	}
	wantRows(t, p, 2, nil)
}

// P19.1: what ended takes nothing more; what was done stays.
func TestEnded(t *testing.T) {
	p := newPlace(t, 10, 2)
	w := newWriter(t, p)
	put(t, w, num(1), num(2))
	done(t, w)
	kept := newWriter(t, p)
	for range 3 {
		wantErr(t, "Put", w.Put(num(3)), api.ErrClosed)
		wantErr(t, "Put", w.Put([]api.Value{{Kind: 9}}), api.ErrClosed)
		wantNotDone(t, w, api.ErrClosed)
		w.Drop()
		wantHeld(t, p, 1, 1, 2)
	}
	wantRows(t, p, 1, many(1, 3))
	kept.Drop()
	wantHeld(t, p, 0, 1)
	if w.Len() != 2 || kept.Len() != 0 {
		t.Fatal(w.Len(), kept.Len())
	}
}

// P19.1: what is dropped leaves no file and no page; then it has ended.
func TestDrop(t *testing.T) {
	p := newPlace(t, 10, 2)
	w := newWriter(t, p)
	put(t, w, many(0, 3*inPage)...)
	w.Drop()
	wantHeld(t, p, 0)
	kept := newWriter(t, p)
	for range 3 {
		wantErr(t, "Put", w.Put(num(3)), api.ErrClosed)
		wantNotDone(t, w, api.ErrClosed)
		w.Drop()
		wantHeld(t, p, 1, 2)
	}
	if w.Len() != 3*inPage || p.Disk.Meter() != (api.Meter{Writes: 2, Peak: 2}) {
		t.Fatal(w.Len(), p.Disk.Meter())
	}
	kept.Drop()
}

// P19.2: nil writers, and those that no call made, answer as ones that ended.
func TestNilWriter(t *testing.T) {
	for _, w := range []*spill.Writer{nil, {}} {
		wantErr(t, "Put", w.Put(num(1)), api.ErrClosed)
		wantNotDone(t, w, api.ErrClosed)
		if n := w.Len(); n != 0 {
			t.Error(n)
		}
		w.Drop()
		w.Drop()
	}
}

// P19.2: what is refused of the writer's making, of a row, of its end leaves nothing.
func TestWriteRefused(t *testing.T) {
	rows := many(0, 2*inPage+1)
	with := func(i int, r []api.Value) [][]api.Value { return slices.Insert(slices.Clone(rows), i, r) }
	odd, long := []api.Value{{Kind: 9}}, wide(t, api.MaxWidth+1)
	for i, c := range []struct {
		p    spill.Place
		l    [][]api.Value
		want api.Errno
	}{
		{newPlace(t, 10, 0), rows, api.ErrBudget},
		{newPlace(t, 10, 1), with(0, odd), api.ErrRow},
		{newPlace(t, 10, 1), with(len(rows), odd), api.ErrRow},
		{newPlace(t, 10, 1), with(inPage, long), api.ErrLong},
		{newPlace(t, 10, 1), append(with(3, long), odd), api.ErrLong},
		{newPlace(t, 10, 1, 1), rows, api.ErrFault},
		{newPlace(t, 10, 1, 2), with(len(rows), odd), api.ErrFault},
		{newPlace(t, 10, 1, 3), rows, api.ErrFault},
		{newPlace(t, 0, 1), rows, api.ErrFull},
		{newPlace(t, 2, 1), rows, api.ErrFull},
	} {
		if file, e := c.p.Write(c.l); file != 0 || e != c.want {
			t.Errorf("%d: Write = %d, %d, not 0, %d", i, file, e, c.want)
		}
		wantHeld(t, c.p, 0)
	}
	p := newPlace(t, 3, 1, 4)
	file, e := p.Write(rows)
	wantErr(t, "Write", e, api.OK)
	wantHeld(t, p, 0, file)
	if l, e := p.All(file); len(l) != 0 || e != api.ErrFault {
		t.Error(l, e)
	}
	wantRows(t, p, file, rows)
}

// P19.1 (R3): what is handed in is not kept, and not changed.
func TestWriterApart(t *testing.T) {
	p := newPlace(t, 10, 2)
	w := newWriter(t, p)
	spare := append(num(1), value.Text("spare"))
	r := spare[:1]
	put(t, w, r)
	if !row.Same(spare, []api.Value{value.Int(1), value.Text("spare")}) {
		t.Fatal("what was handed in is changed")
	}
	r[0] = value.Int(9)
	put(t, w, r)
	l := [][]api.Value{num(5), num(6)}
	file, e := p.Write(l)
	wantErr(t, "Write", e, api.OK)
	if !same(l, [][]api.Value{num(5), num(6)}) {
		t.Fatal("what was handed in is changed")
	}
	l[0][0] = value.Null()
	wantRows(t, p, file, [][]api.Value{num(5), num(6)})
	wantRows(t, p, done(t, w), [][]api.Value{num(1), num(9)})
}

// P19.1: a writer, and a reader, has the methods of its place.
func TestPromoted(t *testing.T) {
	p := newPlace(t, 10, 4)
	w := newWriter(t, p)
	file, e := w.Write(many(0, 2))
	wantErr(t, "Write", e, api.OK)
	r := newReader(t, w.Place, file)
	if w.Left() != 2 || r.Left() != 2 {
		t.Fatal(w.Left(), r.Left())
	}
	if l, e := r.All(file); e != api.OK || !same(l, many(0, 2)) {
		t.Fatal(l, e)
	}
	v, e := r.Writer()
	wantErr(t, "Writer", e, api.OK)
	s, e := w.Reader(file)
	wantErr(t, "Reader", e, api.OK)
	wantHeld(t, p, 4, 1, 2, 3)
	v.Drop()
	s.Close()
	r.Remove(file)
	r.Close()
	w.Drop()
	wantHeld(t, p, 0)
}
