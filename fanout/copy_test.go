package fanout_test

import (
	"math"
	"math/rand"
	"slices"
	"strings"
	"testing"

	"commissary/api"
	"commissary/disk"
	"commissary/fanout"
	"commissary/ledger"
	"commissary/page"
	"commissary/spill"
	"commissary/value"
)

func wantCopied(t testing.TB, p spill.Place, file int, w *spill.Writer, rows int, want api.Errno) {
	t.Helper()
	if n, e := fanout.Copy(p, file, w); n != rows || e != want {
		t.Fatalf("Copy(%d) = %d, %d, not %d, %d", file, n, e, rows, want)
	}
}

// P21.2: all rows of a file, and how many they are, behind what the writer has.
func TestCopy(t *testing.T) {
	for _, l := range [][][]api.Value{nil, {num(1)}, {{}, {}}, fulls(0, 9), drawn(rand.New(rand.NewSource(2)), 200, 9)} {
		p := newPlace(t, 500, 2)
		file := write(t, p, l)
		w := newWriter(t, p)
		wantErr(t, "Put", w.Put(num(7)), api.OK)
		reads := p.Disk.Meter().Reads
		wantCopied(t, p, file, w, len(l), api.OK)
		if n := p.Disk.Meter().Reads - reads; n != fanout.Widest(p, []int{file}) {
			t.Error(n)
		}
		wantCopied(t, p, file, w, len(l), api.OK)
		if n := p.Ledger.Total(); n != 2 || w.Len() != 1+2*len(l) {
			t.Error(n, w.Len())
		}
		done, e := w.Done()
		wantErr(t, "Done", e, api.OK)
		wantRows(t, p, done, append([][]api.Value{num(7)}, append(slices.Clone(l), l...)...))
		wantRows(t, p, file, l)
		wantHeld(t, p, file, done)
	}
}

// P21.2: what a reader refuses goes ahead of what the writer does.
func TestCopyOfNoFile(t *testing.T) {
	p := newPlace(t, 100, 1)
	file := write(t, p, fulls(0, 2))
	w := newWriter(t, p)
	for _, into := range []*spill.Writer{w, nil, new(spill.Writer)} {
		for _, gone := range []int{0, -1, 9, math.MaxInt, math.MinInt} {
			wantCopied(t, p, gone, into, 0, api.ErrNone)
		}
		wantCopied(t, p, file, into, 0, api.ErrBudget) // w has the only page
		wantCopied(t, spill.Place{}, file, into, 0, api.ErrClosed)
		wantCopied(t, spill.Place{Disk: new(disk.Disk), Ledger: p.Ledger}, file, into, 0, api.ErrClosed)
		wantCopied(t, spill.Place{Disk: p.Disk}, file, into, 0, api.ErrClosed)
		wantCopied(t, spill.Place{Disk: p.Disk, Ledger: new(ledger.Ledger)}, file, into, 0, api.ErrClosed)
		wantCopied(t, spill.Place{Disk: p.Disk, Ledger: p.Ledger, Account: 44}, file, into, 0, api.ErrNone)
	}
	if w.Len() != 0 {
		t.Error(w.Len())
	}
	w.Drop()
	wantHeld(t, p, file)
}

// P21.2: a writer that ended, or never was, refuses the first row, if there is one.
func TestCopyIntoNone(t *testing.T) {
	p := newPlace(t, 100, 2)
	file, none := write(t, p, fulls(0, 3)), write(t, p, nil)
	dropped, ended := newWriter(t, p), newWriter(t, p)
	dropped.Drop()
	wantErr(t, "Put", ended.Put(num(4)), api.OK)
	done, e := ended.Done()
	wantErr(t, "Done", e, api.OK)
	for _, w := range []*spill.Writer{nil, new(spill.Writer), dropped, ended} {
		wantCopied(t, p, file, w, 0, api.ErrClosed)
		wantCopied(t, p, none, w, 0, api.OK)
		wantHeld(t, p, file, none, done)
	}
	wantRows(t, p, done, [][]api.Value{num(4)})
}

// P21.2: how many rows were put when a page can't be written, or read; a writer at fault takes no more.
func TestCopyFaults(t *testing.T) {
	l := append(append(fulls(0, 4), num(1), num(2), num(3)), fulls(4, 6)...) // pages of 1 1 1 1 3 1 1
	for at, put := range []int{
		0, 1, 1, 2, 2, 3, 3, 4, 4, 7, 7, 8, 8, // each row is put ahead of the page behind which it stands
	} {
		p := newPlace(t, 100, 2, 7+at+1)
		file := write(t, p, l)
		w := newWriter(t, p)
		wantCopied(t, p, file, w, put, api.ErrFault)
		if w.Len() != put {
			t.Error(at, w.Len())
		}
		if at%2 == 0 && at > 0 { // an Append was refused
			wantCopied(t, p, file, w, 0, api.ErrFault)
		}
		w.Drop()
		wantHeld(t, p, file)
		wantRows(t, p, file, l)
	}
	for room := 7; room <= 14; room++ {
		p := newPlace(t, room, 2)
		file := write(t, p, l)
		w := newWriter(t, p)
		want, put := api.ErrFull, []int{1, 2, 3, 4, 7, 8, 9, 9}[room-7]
		if room >= 13 { // the last page is Done's
			want = api.OK
		}
		wantCopied(t, p, file, w, put, want)
		w.Drop()
		wantHeld(t, p, file)
	}
}

// P21.2: rows ahead of what is no page are put.
func TestCopyOfNoPages(t *testing.T) {
	p := newPlace(t, 100, 2)
	for n := range 4 {
		file, w := odd(t, p, fulls(0, n)), newWriter(t, p)
		wantCopied(t, p, file, w, n, api.ErrPage)
		w.Drop()
		wantHeld(t, p, file)
		p.Remove(file)
	}
}

func wantConcat(t testing.TB, p spill.Place, files []int, want [][]api.Value) {
	t.Helper()
	ahead := p.Disk.Files()
	file, e := fanout.Concat(p, files)
	wantErr(t, "Concat", e, api.OK)
	wantHeld(t, p, append(ahead, file)...)
	wantRows(t, p, file, want)
	p.Remove(file)
}

func wantNoConcat(t testing.TB, p spill.Place, files []int, want api.Errno) {
	t.Helper()
	var ahead []int
	if p.Disk != nil {
		ahead = p.Disk.Files()
	}
	if file, e := fanout.Concat(p, files); file != 0 || e != want {
		t.Fatalf("Concat(%v) = %d, %d, not %d", files, file, e, want)
	}
	if p.Ledger != nil && p.Ledger.Total() != 1 {
		t.Fatal(p.Ledger.Total())
	}
	if !slices.Equal(p.Disk.Files(), ahead) {
		t.Fatal(p.Disk.Files(), ahead)
	}
}

// P21.2: the rows of all, one behind the other.
func TestConcat(t *testing.T) {
	p := newPlace(t, 100, 2)
	a, b, c := [][]api.Value{num(1), num(2)}, fulls(3, 6), [][]api.Value{{}, {value.Null()}}
	fa, fb, fc, none := write(t, p, a), write(t, p, b), write(t, p, c), write(t, p, nil)
	wantConcat(t, p, nil, nil)
	wantConcat(t, p, []int{}, nil)
	wantConcat(t, p, []int{none}, nil)
	wantConcat(t, p, []int{fa}, a)
	wantConcat(t, p, []int{fa, fb, fc}, slices.Concat(a, b, c))
	wantConcat(t, p, []int{fc, none, fb, none, fa}, slices.Concat(c, b, a))
	wantConcat(t, p, []int{fa, fa, fb, fa, fb}, slices.Concat(a, a, b, a, b))
	wantConcat(t, p, slices.Repeat([]int{fa}, 200), slices.Repeat(a, 200))
	wantRows(t, p, fb, b)
	files := []int{fa, fb, fc}
	wantConcat(t, p, files[:1], a)
	if !slices.Equal(files, []int{fa, fb, fc}) {
		t.Error(files)
	}
}

// P21.2: what a writer refuses goes first, then what Copy does of each file in order.
func TestConcatRefused(t *testing.T) {
	p := newPlace(t, 100, 2)
	file, bad := write(t, p, fulls(0, 3)), odd(t, p, fulls(0, 1))
	next := bad + 1 // the number of the file that Concat makes
	for _, gone := range []int{next, next + 1, 0, -1, math.MaxInt} {
		wantNoConcat(t, p, []int{gone}, api.ErrNone)
		next++
		wantNoConcat(t, p, []int{file, gone}, api.ErrNone)
		next++
		wantNoConcat(t, p, []int{file, file, gone, bad}, api.ErrNone)
		next++
		wantNoConcat(t, p, []int{bad, gone}, api.ErrPage)
		next++
		wantNoConcat(t, p, []int{file, next, gone}, api.ErrNone)
		next++
	}
	for _, l := range [][]int{nil, {file}, {bad}, {99}} {
		wantNoConcat(t, spill.Place{Disk: p.Disk}, l, api.ErrClosed)
		wantNoConcat(t, spill.Place{Disk: p.Disk, Ledger: p.Ledger, Account: 7}, l, api.ErrNone)
		wantNoConcat(t, spill.Place{Ledger: p.Ledger}, l, api.ErrClosed)
		wantNoConcat(t, newPlace(t, 10, 0), l, api.ErrBudget)
	}
	few := newPlace(t, 10, 1)
	file = write(t, few, nil)
	wantConcat(t, few, nil, nil)
	wantNoConcat(t, few, []int{file}, api.ErrBudget)
	wantNoConcat(t, few, []int{file + 9, file}, api.ErrNone)
}

// P21.2: where the file can't be made nothing is looked at.
func TestConcatWithoutFiles(t *testing.T) {
	p := newPlace(t, 10, 5)
	for range api.MaxTemps {
		p.Disk.Create()
	}
	wantNoConcat(t, p, nil, api.ErrFull)
	wantNoConcat(t, p, []int{0}, api.ErrFull)
}

// P21.2: at a fault at each deed in turn, and on a disk that is full, nothing is left.
func TestConcatFaults(t *testing.T) {
	a, b := fulls(0, 3), append(fulls(3, 5), num(6))
	for at := 1; at <= 12; at++ { // 6 pages are read, 6 written
		p := newPlace(t, 100, 2, 6+at)
		files := []int{write(t, p, a), write(t, p, b)}
		wantNoConcat(t, p, files, api.ErrFault)
		wantRows(t, p, files[0], a)
		wantRows(t, p, files[1], b)
	}
	for room := 6; room <= 12; room++ {
		p := newPlace(t, room, 2)
		files := []int{write(t, p, a), write(t, p, b)}
		if room == 12 {
			wantConcat(t, p, files, slices.Concat(a, b))
			continue
		}
		wantNoConcat(t, p, files, api.ErrFull)
	}
}

// P21.2, P21.3: the parts of a file, one behind the other, have its rows.
func TestConcatOfParts(t *testing.T) {
	p := newPlace(t, 200, 8)
	l := drawn(rand.New(rand.NewSource(8)), 300, 50)
	file := write(t, p, l)
	parts, e := fanout.Split(p, file, 3, 2, 7, []int{0, 1})
	wantErr(t, "Split", e, api.OK)
	var want [][]api.Value
	for _, part := range parts {
		rows, e := beside(p).All(part)
		wantErr(t, "All", e, api.OK)
		want = append(want, rows...)
	}
	wantConcat(t, p, parts, want)
	if len(want) != len(l) {
		t.Error(len(want))
	}
}

// P21.2: the pages of the one that has most; of none, and of those that are not there, 0.
func TestWidest(t *testing.T) {
	p := newPlace(t, 100, 0)
	none, two, five := write(t, p, nil), write(t, p, fulls(0, 2)), write(t, p, fulls(0, 5))
	again := write(t, p, fulls(5, 10))
	thin := write(t, p, [][]api.Value{num(1)})
	for range 2 {
		wantErr(t, "Append", p.Disk.Append(thin, page.New()), api.OK)
	}
	gone := write(t, p, fulls(0, 9))
	p.Remove(gone)
	deeds := p.Disk.Deeds()
	for _, c := range []struct {
		files []int
		want  int
	}{
		{nil, 0}, {[]int{}, 0}, {[]int{none}, 0}, {[]int{gone}, 0}, {[]int{0, -1, 99, math.MaxInt, math.MinInt}, 0},
		{[]int{two}, 2}, {[]int{two, five}, 5}, {[]int{five, two}, 5}, {[]int{five, again, five}, 5}, {[]int{two, two}, 2},
		{[]int{none, two, gone}, 2}, {[]int{thin}, 3}, {[]int{two, thin, none}, 3},
	} {
		if n := fanout.Widest(p, c.files); n != c.want {
			t.Errorf("Widest(%v) = %d, not %d", c.files, n, c.want)
		}
		for _, q := range []spill.Place{{}, {Ledger: p.Ledger}, {Disk: new(disk.Disk)}} {
			if n := fanout.Widest(q, c.files); n != 0 {
				t.Error(n)
			}
		}
		if n := fanout.Widest(spill.Place{Disk: p.Disk}, c.files); n != c.want {
			t.Error(n)
		}
	}
	if p.Disk.Deeds() != deeds || p.Ledger.Total() != 1 {
		t.Error(p.Disk.Deeds(), p.Ledger.Total())
	}
}

// P21.2: the longest rows that a page takes, and the widest, come through as they are.
func TestCopyLongest(t *testing.T) {
	p := newPlace(t, 100, 2)
	l := [][]api.Value{full(1), {value.Text(strings.Repeat("x", api.MaxText))}, make([]api.Value, api.MaxCols), {}, full(2)}
	wantConcat(t, p, []int{write(t, p, l)}, l)
}
