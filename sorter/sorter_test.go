package sorter_test

import (
	"bytes"
	"math"
	"math/rand"
	"slices"
	"strings"
	"testing"

	"commissary/api"
	"commissary/disk"
	"commissary/ledger"
	"commissary/page"
	"commissary/row"
	"commissary/sorter"
	"commissary/spill"
	"commissary/value"
)

// P20.1: what Size refuses goes ahead of too few pages.
func TestSortOfNoFile(t *testing.T) {
	for left := range 5 {
		p := newPlace(t, 10, left)
		gone, _ := p.Disk.Create()
		p.Remove(gone)
		for _, file := range []int{0, -1, gone, 2, math.MaxInt, math.MinInt} {
			if got, e := sorter.Sort(p, file, nil, nil, false); got != 0 || e != api.ErrNone {
				t.Error(left, file, got, e)
			}
			wantHeld(t, p)
		}
		p.Disk = nil
		if got, e := sorter.Sort(p, 1, nil, nil, false); got != 0 || e != api.ErrClosed {
			t.Error(left, got, e)
		}
	}
	if got, e := sorter.Sort(spill.Place{}, 1, []int{0}, nil, true); got != 0 || e != api.ErrClosed {
		t.Error(got, e)
	}
}

// P20.1: less than 3 pages are too few, whatever the file.
func TestSortInFewPages(t *testing.T) {
	for left := range 5 {
		for _, l := range [][][]api.Value{nil, {num(1)}, fulls(3, 1, 2)} {
			p := newPlace(t, 100, left)
			spare := spill.Place{Disk: p.Disk, Ledger: p.Ledger}
			file, _ := write(t, spare, l)
			deeds := p.Disk.Deeds()
			got, e := sorter.Sort(p, file, nil, nil, false)
			if left >= 3 {
				wantErr(t, "Sort", e, api.OK)
				wantHeld(t, p, file, got)
				wantRows(t, p, got, sorted(l, nil, nil, false))
				continue
			}
			if got != 0 || e != api.ErrBudget || p.Disk.Deeds() != deeds {
				t.Error(left, got, e)
			}
			wantHeld(t, p, file)
		}
	}
	p := newPlace(t, 10, 5)
	file, _ := write(t, p, fulls(2, 1))
	for _, odd := range []spill.Place{{Disk: p.Disk}, {Disk: p.Disk, Ledger: p.Ledger, Account: 9}} {
		if got, e := sorter.Sort(odd, file, nil, nil, false); got != 0 || e != api.ErrBudget {
			t.Error(got, e)
		}
	}
	wantHeld(t, p, file)
}

// P20.1: no rows, one row; a file without pages is one of its own.
func TestSortOfFew(t *testing.T) {
	for _, once := range []bool{false, true} {
		for _, l := range [][][]api.Value{nil, {{}}, {num(5)}, {num(5), num(5)}, {{}, {}}, fulls(4)} {
			wantSorted(t, newPlace(t, 10, 3), l, []int{0}, nil, once)
		}
	}
	p := newPlace(t, 10, 3)
	file, _ := write(t, p, nil)
	wantErr(t, "Append", p.Disk.Append(file, page.New()), api.OK)
	got, e := sorter.Sort(p, file, nil, nil, false)
	wantErr(t, "Sort", e, api.OK)
	wantHeld(t, p, file, got)
	wantRows(t, p, got, nil)
}

// P20.1, P20.3: in each order, of rows that stand there often, with and without once.
func TestSortOrders(t *testing.T) {
	var l [][]api.Value
	for _, n := range mixed(300) {
		l = append(l, []api.Value{value.Int(n % 3), value.Text(strings.Repeat("b", n%7)), value.Bool(n%2 == 0)})
		l = append(l, num(n%5), []api.Value{}, []api.Value{value.Null(), value.Int(n % 4)})
	}
	for _, left := range []int{3, 4, 7, 200} {
		for _, once := range []bool{false, true} {
			for _, by := range [][]int{nil, {0}, {1}, {2, 0}, {0, 0}, {7}, {-1, 1}, {math.MaxInt, math.MinInt, 1}} {
				for _, down := range [][]bool{nil, {true}, {false, true}, {true, true, true, true}} {
					wantSorted(t, newPlace(t, 500, left), l, by, down, once)
				}
			}
		}
	}
}

// P20.1: rows that stand alike at the places go by the order of rows, which is never turned round.
func TestSortAlike(t *testing.T) {
	l := [][]api.Value{num(1, 3), num(2, 1), num(1, 1), num(2, 2), num(1, 2), num(1, 1)}
	p := newPlace(t, 10, 3)
	file, _ := write(t, p, l)
	got, e := sorter.Sort(p, file, []int{0}, []bool{true}, false)
	wantErr(t, "Sort", e, api.OK)
	wantRows(t, p, got, [][]api.Value{num(2, 1), num(2, 2), num(1, 1), num(1, 1), num(1, 2), num(1, 3)})
	got, e = sorter.Sort(p, file, []int{1}, nil, true)
	wantErr(t, "Sort", e, api.OK)
	wantRows(t, p, got, [][]api.Value{num(1, 1), num(2, 1), num(1, 2), num(2, 2), num(1, 3)})
}

// P20.1: rows that are the same stand once, even if each run has them.
func TestSortOnce(t *testing.T) {
	var l [][]api.Value
	for range 20 {
		l = append(l, fulls(2, 1, 3, 1)...)
	}
	for left := 3; left < 9; left++ {
		wantSorted(t, newPlace(t, 800, left), l, nil, nil, true)
		wantSorted(t, newPlace(t, 800, left), l, nil, nil, false)
	}
}

// P20.1: how many pages are read, and written, for so many pages that are full, in so many: runs
// as long as the kept pages, the oldest ones merged first, as many as can be.
func TestSortDeeds(t *testing.T) {
	for _, c := range []struct{ pages, left, deeds int }{
		{1, 3, 2},
		{2, 3, 4 + 4}, // two runs
		{3, 3, 6 + 4 + 6},
		{10, 3, 20 + 2*(10+8+6+10)}, // ten, then five of two pages, then 2 4 4, then 4 6
		{3, 5, 6},
		{4, 5, 8 + 8},
		{12, 5, 24 + 24},      // four runs, as many as can be merged at once
		{13, 5, 26 + 24 + 26}, // one more
		{48, 5, 96 + 96 + 96},
		{50, 5, 100 + 96 + 2*38 + 100}, // 17 runs, then 2 12 12 12 12, then 12 38
		{68, 70, 136},
		{69, 70, 138 + 138},
		{64 * 68, 70, 2 * 2 * 64 * 68},         // MaxFan runs
		{65 * 68, 70, 2 * (65 + 64 + 65) * 68}, // one more, though 69 pages are left
	} {
		p := newPlace(t, api.MaxDisk, c.left)
		file, size := write(t, p, fulls(mixed(c.pages)...))
		if size != c.pages {
			t.Fatal(size, c.pages)
		}
		ahead := p.Disk.Deeds()
		got, e := sorter.Sort(p, file, nil, nil, false)
		wantErr(t, "Sort", e, api.OK)
		if n := p.Disk.Deeds() - ahead; n != c.deeds || n > sorter.Bound(c.pages, c.left) {
			t.Errorf("%d pages in %d: %d are read and written, not %d", c.pages, c.left, n, c.deeds)
		}
		wantHeld(t, p, file, got)
		if n := p.Ledger.Peak(p.Account); n > 1+c.left {
			t.Error(n)
		}
	}
}

// P20.1: each page that is read, written, and kept is charged to the account.
func TestSortHolds(t *testing.T) {
	for left := 3; left < 10; left++ {
		for _, pages := range []int{1, left - 2, 50} {
			p := newPlace(t, 300, left)
			file, _ := write(t, p, fulls(mixed(pages)...))
			_, e := sorter.Sort(p, file, nil, nil, false)
			wantErr(t, "Sort", e, api.OK)
			if n := p.Ledger.Peak(p.Account); n != 1+left {
				t.Errorf("%d pages were held of %d that were left", n-1, left)
			}
		}
	}
}

// P20.1: pages that are not full are filled.
func TestSortOfThinPages(t *testing.T) {
	p := newPlace(t, 400, 3)
	file, e := p.Disk.Create()
	wantErr(t, "Create", e, api.OK)
	var l [][]api.Value
	for _, n := range mixed(100) {
		l = append(l, num(n))
		pages, _ := page.Fill([][]api.Value{num(n)})
		wantErr(t, "Append", p.Disk.Append(file, pages[0]), api.OK)
		wantErr(t, "Append", p.Disk.Append(file, page.New()), api.OK)
	}
	ahead := p.Disk.Deeds()
	got, e := sorter.Sort(p, file, []int{0}, []bool{true}, false)
	wantErr(t, "Sort", e, api.OK)
	wantHeld(t, p, file, got)
	wantRows(t, p, got, sorted(l, []int{0}, []bool{true}, false))
	// 200 pages are read, 5 runs written; then 2 2 1, 1 4, 5
	if n := p.Disk.Deeds() - ahead - 5; n != 200+5+2*(2+2+3+5) {
		t.Error(n)
	}
}

// P20.1: what is no page of rows is refused, and nothing is left.
func TestSortOfNoPages(t *testing.T) {
	for at := range 4 {
		p := newPlace(t, 100, 3)
		file, _ := p.Disk.Create()
		for i, r := range fulls(3, 2, 1) {
			if i == at {
				wantErr(t, "Append", p.Disk.Append(file, bytes.Repeat([]byte{9}, api.PageSize)), api.OK)
			}
			pages, _ := page.Fill([][]api.Value{r})
			wantErr(t, "Append", p.Disk.Append(file, pages[0]), api.OK)
		}
		got, e := sorter.Sort(p, file, nil, nil, false)
		if at == 3 {
			wantErr(t, "Sort", e, api.OK)
			wantHeld(t, p, file, got)
			continue
		}
		if got != 0 || e != api.ErrPage {
			t.Error(at, got, e)
		}
		wantHeld(t, p, file)
	}
}

// P20.1: at a fault at each deed in turn all other files are gone, and the sorted one is there.
func TestSortFaults(t *testing.T) {
	l := fulls(mixed(12)...)
	for _, left := range []int{3, 4, 5, 20} {
		for at := 1; ; at++ {
			p := newPlace(t, 100, left, 12+at)
			file, _ := write(t, p, l)
			got, e := sorter.Sort(p, file, nil, nil, false)
			if e == api.OK {
				if n := p.Disk.Deeds(); n >= 12+at {
					t.Fatal(left, at, n)
				}
				wantHeld(t, p, file, got)
				break
			}
			if got != 0 || e != api.ErrFault {
				t.Fatal(left, at, got, e)
			}
			wantHeld(t, p, file)
			wantRows(t, p, file, l)
		}
	}
}

// P20.1: of a disk that is full nothing is left but what was there ahead.
func TestSortFull(t *testing.T) {
	l := fulls(mixed(12)...)
	for _, left := range []int{3, 4, 5, 20} {
		fits := false
		for room := 12; room <= 12+6*12+4; room++ {
			p := newPlace(t, room, left)
			file, _ := write(t, p, l)
			got, e := sorter.Sort(p, file, nil, nil, false)
			if e == api.OK {
				fits = true
				wantHeld(t, p, file, got)
				continue
			}
			if fits || got != 0 || e != api.ErrFull {
				t.Fatal(left, room, got, e)
			}
			wantHeld(t, p, file)
			wantRows(t, p, file, l)
		}
		if !fits {
			t.Fatal(left)
		}
	}
}

// P20.1: where no file can be made any more, no run is left.
func TestSortWithoutFiles(t *testing.T) {
	for free := range 6 {
		p := newPlace(t, 100, 3)
		file, _ := write(t, p, fulls(3, 1, 2))
		for range api.MaxTemps - 1 - free {
			p.Disk.Create()
		}
		got, e := sorter.Sort(p, file, nil, nil, false)
		want := api.ErrFull
		if free >= 4 { // three runs, and the file that two of them come into
			want = api.OK
		}
		if e != want || (e == api.OK) != (got != 0) {
			t.Error(free, got, e)
		}
		p.Remove(got)
		if n := len(p.Disk.Files()); n != api.MaxTemps-free || p.Ledger.Total() != 1 {
			t.Error(free, n, p.Ledger.Total())
		}
	}
}

// P20.2: rows whose pages are worse filled in order than they stand: the pages are within Bound.
func TestSortWorsePages(t *testing.T) {
	half := strings.Repeat("h", 56)
	var l [][]api.Value
	for n := range 200 {
		l = append(l, []api.Value{value.Int(2 * n), value.Text(half), value.Text(half)})
	}
	for n := range 200 {
		l = append(l, num(2*n+1))
	}
	for _, left := range []int{3, 4, 5, 10, 100, 200} {
		wantSorted(t, newPlace(t, 2000, left), l, nil, nil, false)
	}
	p := newPlace(t, 2000, 3)
	file, pages := write(t, p, l)
	got, _ := sorter.Sort(p, file, nil, nil, false)
	if n, _ := p.Disk.Size(got); n <= pages+pages/2 {
		t.Fatal(n, pages)
	}
}

// P20.1, P20.2, P20.3: rows that are drawn, in any order, in few pages and in many.
func TestSortDrawn(t *testing.T) {
	rnd := rand.New(rand.NewSource(20))
	for range 150 {
		var l [][]api.Value
		some := 1 + rnd.Intn(200)
		for range rnd.Intn(400) {
			r := num(rnd.Intn(some))
			if rnd.Intn(2) == 0 {
				r = append(r, value.Text(strings.Repeat("t", rnd.Intn(api.MaxText+1))))
			}
			if rnd.Intn(5) == 0 {
				r = append(r, value.Null(), value.Text(strings.Repeat("u", rnd.Intn(api.MaxText+1))))
			}
			l = append(l, r)
		}
		var by []int
		var down []bool
		for range rnd.Intn(3) {
			by = append(by, rnd.Intn(4))
			down = append(down, rnd.Intn(2) == 0)
		}
		left := 3 + rnd.Intn(4)
		if rnd.Intn(4) == 0 {
			left = 3 + rnd.Intn(60)
		}
		wantSorted(t, newPlace(t, 2000, left), l, by, down, rnd.Intn(2) == 0)
	}
}

// P20.1 (R3): what is handed in is not changed.
func TestSortUnchanged(t *testing.T) {
	p := newPlace(t, 100, 3)
	file, _ := write(t, p, fulls(3, 1, 2, 1))
	by, down := []int{1, 0, 9, 9}, []bool{true, false, true, true}
	got, e := sorter.Sort(p, file, by[:2], down[:2], true)
	wantErr(t, "Sort", e, api.OK)
	wantRows(t, p, got, fulls(1, 2, 3))
	if !slices.Equal(by, []int{1, 0, 9, 9}) || !slices.Equal(down, []bool{true, false, true, true}) {
		t.Error(by, down)
	}
}

// P20.2: how often runs must be merged.
func TestRounds(t *testing.T) {
	for _, c := range []struct{ pages, left, want int }{
		{10, 3, 4}, {0, 3, 0}, {-1, 3, 0}, {math.MinInt, 3, 0}, {10, 2, 0}, {10, 0, 0}, {10, -5, 0}, {10, math.MinInt, 0}, {0, 0, 0},
		{1, 3, 0}, {2, 3, 1}, {3, 3, 2}, {4, 3, 2}, {5, 3, 3}, {8, 3, 3}, {9, 3, 4},
		{2, 4, 0}, {3, 4, 1}, {6, 4, 1}, {7, 4, 2}, {18, 4, 2}, {19, 4, 3},
		{3, 5, 0}, {4, 5, 1}, {12, 5, 1}, {13, 5, 2}, {48, 5, 2}, {49, 5, 3},
		{62 * 63, 64, 1}, {62*63 + 1, 64, 2},
		{63 * 64, 65, 1}, {63*64 + 1, 65, 2},
		{64 * 64, 66, 1}, {64*64 + 1, 66, 2},
		{98 * 64, 100, 1}, {98*64 + 1, 100, 2}, {98 * 64 * 64, 100, 2}, {98*64*64 + 1, 100, 3},
		{math.MaxInt, 3, 63}, {1 << 62, 3, 62}, {1<<62 + 1, 3, 63}, {math.MaxInt, math.MaxInt, 1},
		{math.MaxInt, math.MaxInt - 1, 1}, {math.MaxInt - 2, math.MaxInt, 0}, {math.MaxInt - 1, math.MaxInt, 1}, {5, math.MaxInt, 0},
		{1 << 40, 66, 6}, {math.MaxInt, 66, 10},
	} {
		if got := sorter.Rounds(c.pages, c.left); got != c.want {
			t.Errorf("Rounds(%d, %d) = %d, not %d", c.pages, c.left, got, c.want)
		}
	}
}

// P20.2: 4 for each page, 6 for each in each round, and 4.
func TestBound(t *testing.T) {
	for _, c := range []struct{ pages, left, want int }{
		{10, 3, 284}, {0, 3, 4}, {0, 0, 4}, {0, math.MinInt, 4}, {1, 3, 8}, {2, 3, 24}, {12, 5, 124}, {13, 5, 212},
		{10, 2, 44}, {10, 0, 44}, {10, -7, 44}, {100, 102, 404}, {101, 102, 1014},
		{-1, 3, 0}, {-5, 3, -16},
		{1 << 40, 3, 244<<40 + 4},
		{math.MaxInt, 3, math.MaxInt}, {math.MaxInt / 2, 3, math.MaxInt}, {math.MaxInt, 0, math.MaxInt}, {1 << 61, 0, math.MaxInt},
		{1<<61 - 2, 0, math.MaxInt - 3}, {1<<61 - 1, 0, math.MaxInt}, {math.MaxInt, math.MaxInt, math.MaxInt},
		{math.MinInt, 3, math.MinInt}, {math.MinInt / 4, 3, math.MinInt + 4}, {math.MinInt/4 - 1, 3, math.MinInt},
	} {
		if got := sorter.Bound(c.pages, c.left); got != c.want {
			t.Errorf("Bound(%d, %d) = %d, not %d", c.pages, c.left, got, c.want)
		}
	}
	for pages := range 200 {
		for left := range 80 {
			if got, want := sorter.Bound(pages, left), 4*pages+6*pages*sorter.Rounds(pages, left)+4; got != want {
				t.Fatal(pages, left, got, want)
			}
		}
	}
}

// P20.1: rows in order, and whether they are.
func TestRows(t *testing.T) {
	l := [][]api.Value{num(2, 1), num(1, 3), {}, num(1, 1), num(2, 1), {value.Null(), value.Int(1)}, num(1)}
	for _, c := range []struct {
		by   []int
		down []bool
		want [][]api.Value
	}{
		{nil, nil, [][]api.Value{{}, {value.Null(), value.Int(1)}, num(1), num(1, 1), num(1, 3), num(2, 1), num(2, 1)}},
		{nil, []bool{true}, [][]api.Value{{}, {value.Null(), value.Int(1)}, num(1), num(1, 1), num(1, 3), num(2, 1), num(2, 1)}},
		{[]int{0}, []bool{true}, [][]api.Value{num(2, 1), num(2, 1), num(1), num(1, 1), num(1, 3), {}, {value.Null(), value.Int(1)}}},
		{[]int{1}, nil, [][]api.Value{{}, num(1), {value.Null(), value.Int(1)}, num(1, 1), num(2, 1), num(2, 1), num(1, 3)}},
		{[]int{1, 0}, []bool{false, true}, [][]api.Value{num(1), {}, num(2, 1), num(2, 1), num(1, 1), {value.Null(), value.Int(1)}, num(1, 3)}},
		{[]int{-3, 5, math.MaxInt}, nil, [][]api.Value{{}, {value.Null(), value.Int(1)}, num(1), num(1, 1), num(1, 3), num(2, 1), num(2, 1)}},
	} {
		got := sorter.Rows(l, c.by, c.down)
		if !same(got, c.want) || !same(c.want, sorted(l, c.by, c.down, false)) {
			t.Errorf("Rows by %v %v: %v, not %v", c.by, c.down, got, c.want)
		}
		if sorter.Sorted(l, c.by, c.down) || !sorter.Sorted(c.want, c.by, c.down) {
			t.Errorf("Sorted by %v %v", c.by, c.down)
		}
	}
	if got := sorter.Rows(nil, []int{0}, nil); len(got) != 0 {
		t.Error(got)
	}
}

// P20.1: no rows, one row, rows that are the same are in order; those that stand alike at the places may not be.
func TestSorted(t *testing.T) {
	for _, c := range []struct {
		l    [][]api.Value
		by   []int
		down []bool
		want bool
	}{
		{nil, nil, nil, true},
		{[][]api.Value{num(1)}, []int{0}, []bool{true}, true},
		{[][]api.Value{num(1), num(1), num(1)}, []int{0}, []bool{true}, true},
		{[][]api.Value{num(1), num(2)}, nil, nil, true},
		{[][]api.Value{num(2), num(1)}, nil, nil, false},
		{[][]api.Value{num(2), num(1)}, nil, []bool{true}, false},
		{[][]api.Value{num(2), num(1)}, []int{0}, []bool{true}, true},
		{[][]api.Value{num(1), num(2)}, []int{0}, []bool{true}, false},
		{[][]api.Value{num(1, 1), num(1, 2)}, []int{0}, []bool{true}, true},
		{[][]api.Value{num(1, 2), num(1, 1)}, []int{0}, []bool{true}, false},
		{[][]api.Value{num(1, 2), num(1, 1)}, []int{0}, nil, false},
		{[][]api.Value{num(1), num(1, 2), num(2, 1)}, []int{1}, nil, false},
		{[][]api.Value{num(1), num(2, 1), num(1, 2)}, []int{1}, nil, true},
		{[][]api.Value{num(1), num(3), num(2)}, nil, nil, false},
		{[][]api.Value{num(1), {}}, nil, nil, false},
	} {
		if got := sorter.Sorted(c.l, c.by, c.down); got != c.want {
			t.Errorf("Sorted(%v, %v, %v) = %v", c.l, c.by, c.down, got)
		}
	}
}

// P20.1, P20.3: rows that may not be are put in order, too, each as often as it stands there.
func TestRowsOfAny(t *testing.T) {
	l := [][]api.Value{{{Kind: 9, N: 2}}, {{Kind: -1}}, {{Kind: 9, N: 1, S: "x"}}, num(3), make([]api.Value, 40), {{Kind: -1}}}
	got := sorter.Rows(l, []int{0}, []bool{true})
	if !same(got, sorted(l, []int{0}, []bool{true}, false)) || !sorter.Sorted(got, []int{0}, []bool{true}) {
		t.Error(got)
	}
}

// P20.1 (R3): rows in order are new memory, even those that stand there twice.
func TestRowsApart(t *testing.T) {
	twice := num(1, 2)
	l := [][]api.Value{num(3)[:1], twice, twice, append(num(2), value.Int(9))[:1]}
	kept := [][]api.Value{num(3), num(1, 2), num(1, 2), num(2)}
	want := [][]api.Value{num(1, 2), num(1, 2), num(2), num(3)}
	got := sorter.Rows(l, []int{0}, nil)
	for i, r := range got {
		if !row.Same(r, want[i]) {
			t.Fatal(got)
		}
		r = r[:cap(r)]
		for j := range r {
			r[j] = value.Int(-7)
		}
	}
	if !same(l, kept) || l[3][:2][1] != value.Int(9) {
		t.Error(l)
	}
	clear(got[:cap(got)])
	if sorter.Sorted(l, nil, nil) || !same(l, kept) {
		t.Error(l)
	}
}

// P20.1: each call by a place of its own leaves the others' pages and files alone.
func TestSortBeside(t *testing.T) {
	d, _ := disk.New(1000, nil)
	l, _ := ledger.New(9)
	a, _ := l.Open(0, 3)
	p, q := spill.Place{Disk: d, Ledger: l, Account: a}, spill.Place{Disk: d, Ledger: l}
	w, e := q.Writer()
	wantErr(t, "Writer", e, api.OK)
	wantErr(t, "Put", w.Put(num(1)), api.OK)
	file, _ := write(t, q, fulls(mixed(9)...))
	r, e := q.Reader(file)
	wantErr(t, "Reader", e, api.OK)
	for _, place := range []spill.Place{p, q} { // q, too, has 4 left
		got, e := sorter.Sort(place, file, nil, []bool{true}, false)
		wantErr(t, "Sort", e, api.OK)
		next, there, e := r.Next()
		if e != api.OK || !there || len(next) != 5 {
			t.Fatal(next, there, e)
		}
		l, e := q.All(got)
		if e != api.OK || !same(l, fulls(0, 1, 2, 3, 4, 5, 6, 7, 8)) {
			t.Fatal(l, e)
		}
		q.Remove(got)
	}
	if l.Peak(a) != 3 || l.Held(0) != 2 || l.Held(a) != 0 || !slices.Equal(d.Files(), []int{1, 2}) {
		t.Fatal(l.Peak(a), l.Held(0), l.Held(a), d.Files())
	}
	r.Close()
	if done, e := w.Done(); done != 1 || e != api.OK {
		t.Fatal(done, e)
	}
}
