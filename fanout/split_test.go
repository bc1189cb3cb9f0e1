package fanout_test

import (
	"math"
	"math/rand"
	"slices"
	"testing"

	"commissary/api"
	"commissary/disk"
	"commissary/fanout"
	"commissary/ledger"
	"commissary/page"
	"commissary/row"
	"commissary/spill"
	"commissary/value"
)

// P21.1: a level, or a fan, that may not be goes ahead of all else.
func TestSplitLevelAndFan(t *testing.T) {
	for _, c := range []struct {
		level, fan int
		want       api.Errno
	}{
		{0, 1, api.OK}, {api.MaxLevel, 1, api.OK}, {0, api.MaxFan, api.OK}, {api.MaxLevel, api.MaxFan, api.OK}, {4, 7, api.OK},
		{-1, 1, api.ErrArg}, {api.MaxLevel + 1, 1, api.ErrArg}, {math.MinInt, 2, api.ErrArg}, {math.MaxInt, 2, api.ErrArg},
		{0, 0, api.ErrArg}, {0, -1, api.ErrArg}, {0, api.MaxFan + 1, api.ErrArg}, {0, math.MinInt, api.ErrArg}, {0, math.MaxInt, api.ErrArg},
		{-1, 0, api.ErrArg}, {9, 65, api.ErrArg},
	} {
		l := [][]api.Value{num(1), num(2), num(3), num(1)}
		p := newPlace(t, 100, api.MaxFan+1)
		file := write(t, p, l)
		parts, e := fanout.Split(p, file, 5, c.level, c.fan, []int{0})
		wantErr(t, "Split", e, c.want)
		wantHeld(t, p, append([]int{file}, parts...)...)
		wantRows(t, p, file, l)
		if e == api.OK {
			wantParts(t, p, parts, l, 5, c.level, c.fan, []int{0})
			continue
		}
		if len(parts) != 0 {
			t.Error(c, parts)
		}
		for _, q := range []spill.Place{p, {}, {Disk: p.Disk}, {Ledger: p.Ledger}, newPlace(t, 0, 0)} {
			if parts, e := fanout.Split(q, 77, 5, c.level, c.fan, []int{-1}); len(parts) != 0 || e != api.ErrArg {
				t.Error(c, parts, e)
			}
		}
	}
}

// P21.1: what Size refuses goes ahead of too few pages.
func TestSplitOfNoFile(t *testing.T) {
	for left := range 4 {
		p := newPlace(t, 10, left)
		gone, _ := p.Disk.Create()
		p.Remove(gone)
		for _, file := range []int{0, -1, gone, gone + 1, math.MaxInt, math.MinInt} {
			if parts, e := fanout.Split(p, file, 0, 0, 2, nil); len(parts) != 0 || e != api.ErrNone {
				t.Error(left, file, parts, e)
			}
			wantHeld(t, p)
		}
		p.Disk = nil
		if parts, e := fanout.Split(p, 1, 0, 0, 2, nil); len(parts) != 0 || e != api.ErrClosed {
			t.Error(left, parts, e)
		}
		wantErr(t, "Split", func() api.Errno { _, e := fanout.Split(spill.Place{Disk: new(disk.Disk)}, 1, 0, 0, 2, nil); return e }(), api.ErrClosed)
	}
}

// P21.1: there is a page for reading, and one for each part.
func TestSplitInFewPages(t *testing.T) {
	for fan := 1; fan <= 5; fan++ {
		for left := range 8 {
			for _, l := range [][][]api.Value{nil, {num(1)}, fulls(0, 9)} {
				p := newPlace(t, 100, left)
				file := write(t, p, l)
				deeds := p.Disk.Deeds()
				parts, e := fanout.Split(p, file, 3, 1, fan, []int{0})
				if left >= fan+1 {
					wantErr(t, "Split", e, api.OK)
					wantHeld(t, p, append([]int{file}, parts...)...)
					if n := p.Ledger.Peak(p.Account); n != 1+fan+1 {
						t.Errorf("%d parts: %d pages were held", fan, n-1)
					}
					wantParts(t, p, parts, l, 3, 1, fan, []int{0})
					continue
				}
				if len(parts) != 0 || e != api.ErrBudget || p.Disk.Deeds() != deeds {
					t.Error(fan, left, parts, e)
				}
				wantHeld(t, p, file)
			}
		}
	}
}

// P21.1: an account that is not there, or a ledger, has nothing left.
func TestSplitWithoutAccount(t *testing.T) {
	p := newPlace(t, 10, 70)
	file := write(t, p, fulls(0, 2))
	closed, e := p.Ledger.Open(0, 2)
	wantErr(t, "Open", e, api.OK)
	wantErr(t, "Close", p.Ledger.Close(closed), api.OK)
	for _, q := range []spill.Place{
		{Disk: p.Disk},
		{Disk: p.Disk, Ledger: new(ledger.Ledger)},
		{Disk: p.Disk, Ledger: p.Ledger, Account: closed},
		{Disk: p.Disk, Ledger: p.Ledger, Account: 99},
		{Disk: p.Disk, Ledger: p.Ledger, Account: -1},
	} {
		if parts, e := fanout.Split(q, file, 0, 0, 1, []int{0}); len(parts) != 0 || e != api.ErrBudget {
			t.Error(parts, e)
		}
		wantHeld(t, p, file)
	}
}

// P21.1: without rows each part's file is there, without pages, and no columns are refused.
func TestSplitOfNoRows(t *testing.T) {
	p := newPlace(t, 10, 65)
	for _, cols := range [][]int{nil, {0}, {-1, 99}, make([]int, 40)} {
		file := write(t, p, nil)
		wantErr(t, "Append", p.Disk.Append(file, page.New()), api.OK)
		parts, e := fanout.Split(p, file, 0, 0, 4, cols)
		wantErr(t, "Split", e, api.OK)
		wantParts(t, p, parts, nil, 0, 0, 4, nil)
		wantHeld(t, p, append([]int{file}, parts...)...)
		p.Remove(parts...)
		p.Remove(file)
	}
}

// P21.1: what Pick refuses of any of the rows; nothing is left then.
func TestSplitColumns(t *testing.T) {
	l := append(fulls(0, 9), num(1), num(1, 2), num(1))
	for _, c := range []struct {
		cols []int
		want api.Errno
	}{
		{nil, api.OK}, {[]int{0}, api.OK}, {[]int{0, 0, 0}, api.OK}, {make([]int, api.MaxCols), api.OK},
		{[]int{1}, api.ErrArg}, {[]int{0, 4}, api.ErrArg}, {[]int{5}, api.ErrArg}, {[]int{-1}, api.ErrArg}, {[]int{0, -1}, api.ErrArg},
		{[]int{math.MaxInt}, api.ErrArg}, {[]int{math.MinInt}, api.ErrArg}, {make([]int, api.MaxCols+1), api.ErrArg},
	} {
		p := newPlace(t, 100, 6)
		file := write(t, p, l)
		parts, e := fanout.Split(p, file, 1, 2, 5, c.cols)
		wantErr(t, "Split", e, c.want)
		wantHeld(t, p, append([]int{file}, parts...)...)
		wantRows(t, p, file, l)
		if e == api.OK {
			wantParts(t, p, parts, l, 1, 2, 5, c.cols)
		} else if len(parts) != 0 {
			t.Error(c.cols, parts)
		}
	}
}

// P21.1, P21.3: by no columns, or of rows that are alike, all go into one part, whatever it is.
func TestSplitIntoOne(t *testing.T) {
	for _, c := range []struct {
		cols []int
		l    [][]api.Value
	}{
		{nil, fulls(0, 20)},
		{[]int{1, 2}, fulls(0, 20)},
		{[]int{0}, slices.Repeat([][]api.Value{num(7, 1), num(7, 2)}, 50)},
		{nil, slices.Repeat([][]api.Value{{}}, 200)},
	} {
		p := newPlace(t, 100, 65)
		file := write(t, p, c.l)
		parts, e := fanout.Split(p, file, 9, 3, 64, c.cols)
		wantErr(t, "Split", e, api.OK)
		wantParts(t, p, parts, c.l, 9, 3, 64, c.cols)
		most := slices.MaxFunc(parts, func(a, b int) int { return fanout.Widest(p, []int{a}) - fanout.Widest(p, []int{b}) })
		wantRows(t, p, most, c.l)
	}
}

// P21.1, P21.3: of drawn rows each stands in the part that Part names, as it stands, none is lost, none is there twice.
func TestSplitDrawn(t *testing.T) {
	rnd := rand.New(rand.NewSource(21))
	for range 150 {
		l := drawn(rnd, rnd.Intn(300), 1+rnd.Intn(100))
		seed, level, fan := rnd.Uint64(), rnd.Intn(api.MaxLevel+1), 1+rnd.Intn(api.MaxFan)
		var cols []int
		for range rnd.Intn(4) {
			cols = append(cols, rnd.Intn(3))
		}
		p := newPlace(t, 500, fan+1+rnd.Intn(3))
		file := write(t, p, l)
		parts, e := fanout.Split(p, file, seed, level, fan, cols)
		wantErr(t, "Split", e, api.OK)
		wantHeld(t, p, append([]int{file}, parts...)...)
		wantParts(t, p, parts, l, seed, level, fan, cols)
		wantRows(t, p, file, l)
		var all [][]api.Value
		for _, part := range parts {
			rows, e := beside(p).All(part)
			wantErr(t, "All", e, api.OK)
			all = append(all, rows...)
		}
		if !same(row.Sort(all), row.Sort(l)) {
			t.Fatal(len(all), len(l))
		}
	}
}

// P21.3: rows with the same values at the columns stand in one part, in the order in which they stood.
func TestSplitTogether(t *testing.T) {
	var l [][]api.Value
	for i := range 600 {
		l = append(l, []api.Value{value.Int(i), value.Int(i % 37), value.Bool(i%2 == 0)})
	}
	p := newPlace(t, 200, 9)
	file := write(t, p, l)
	parts, e := fanout.Split(p, file, 4, 0, 8, []int{2, 1})
	wantErr(t, "Split", e, api.OK)
	in := map[int]int{} // each key's part
	last := map[int]int{}
	for i, part := range parts {
		rows, _ := beside(p).All(part)
		for _, r := range rows {
			k := 2*r[1].N + r[2].N
			if at, there := in[k]; there && at != i || there && last[k] >= r[0].N {
				t.Fatal(k, at, i, last[k], r[0].N)
			}
			in[k], last[k] = i, r[0].N
		}
	}
	if len(in) != 74 {
		t.Fatal(len(in))
	}
}

// P21.1: the file is read once, and each page of the parts is written once.
func TestSplitDeeds(t *testing.T) {
	p := newPlace(t, 200, 9)
	file := write(t, p, fulls(0, 50))
	ahead := p.Disk.Meter()
	_, e := fanout.Split(p, file, 1, 1, 8, []int{0})
	wantErr(t, "Split", e, api.OK)
	if m := p.Disk.Meter(); m.Reads-ahead.Reads != 50 || m.Writes-ahead.Writes != 50 {
		t.Error(m, ahead)
	}
}

// P21.1: at a fault at each deed in turn none of the parts is left, and the file is there.
func TestSplitFaults(t *testing.T) {
	l := fulls(0, 12)
	for _, fan := range []int{1, 2, 5} {
		for at := 1; ; at++ {
			p := newPlace(t, 100, fan+1, 12+at)
			file := write(t, p, l)
			parts, e := fanout.Split(p, file, 2, 0, fan, []int{0})
			if e == api.OK {
				if at != 25 { // 12 are read, 12 written
					t.Fatal(fan, at)
				}
				wantHeld(t, p, append([]int{file}, parts...)...)
				break
			}
			if len(parts) != 0 || e != api.ErrFault {
				t.Fatal(fan, at, parts, e)
			}
			wantHeld(t, p, file)
			wantRows(t, p, file, l)
		}
	}
}

// P21.1: of a disk that is full nothing is left but what was there ahead.
func TestSplitFull(t *testing.T) {
	l := fulls(0, 12)
	for room := 12; room <= 24; room++ {
		p := newPlace(t, room, 6)
		file := write(t, p, l)
		parts, e := fanout.Split(p, file, 2, 0, 5, []int{0})
		if room == 24 {
			wantErr(t, "Split", e, api.OK)
			wantHeld(t, p, append([]int{file}, parts...)...)
			continue
		}
		if len(parts) != 0 || e != api.ErrFull {
			t.Fatal(room, parts, e)
		}
		wantHeld(t, p, file)
		wantRows(t, p, file, l)
	}
}

// P21.1: where a part's file can't be made any more, none is left.
func TestSplitWithoutFiles(t *testing.T) {
	p := newPlace(t, 100, 7)
	file := write(t, p, fulls(0, 3))
	for range api.MaxTemps - 1 - 4 {
		p.Disk.Create()
	}
	ahead := p.Disk.Files()
	if parts, e := fanout.Split(p, file, 0, 0, 5, nil); len(parts) != 0 || e != api.ErrFull {
		t.Error(parts, e)
	}
	wantHeld(t, p, ahead...)
	few := p
	few.Account, _ = p.Ledger.Open(0, 2) // too few pages go ahead of that
	if parts, e := fanout.Split(few, file, 0, 0, 2, nil); len(parts) != 0 || e != api.ErrBudget || p.Ledger.Peak(few.Account) != 0 {
		t.Error(parts, e)
	}
	wantErr(t, "Close", p.Ledger.Close(few.Account), api.OK)
	parts, e := fanout.Split(p, file, 0, 0, 4, nil)
	wantErr(t, "Split", e, api.OK)
	wantParts(t, p, parts, fulls(0, 3), 0, 0, 4, nil)
}

// P21.1: what is no page of rows is refused, and nothing is left.
func TestSplitOfNoPages(t *testing.T) {
	for n := range 4 {
		p := newPlace(t, 100, 3)
		file := odd(t, p, fulls(0, n))
		if parts, e := fanout.Split(p, file, 0, 0, 2, []int{0}); len(parts) != 0 || e != api.ErrPage {
			t.Error(n, parts, e)
		}
		wantHeld(t, p, file)
	}
}

// P21.1: pages that are not full are filled.
func TestSplitOfThinPages(t *testing.T) {
	p := newPlace(t, 400, 4)
	file, e := p.Disk.Create()
	wantErr(t, "Create", e, api.OK)
	var l [][]api.Value
	for n := range 100 {
		l = append(l, num(n))
		pages, _ := page.Fill([][]api.Value{num(n)})
		wantErr(t, "Append", p.Disk.Append(file, pages[0]), api.OK)
		wantErr(t, "Append", p.Disk.Append(file, page.New()), api.OK)
	}
	parts, e := fanout.Split(p, file, 8, 1, 3, []int{0})
	wantErr(t, "Split", e, api.OK)
	wantParts(t, p, parts, l, 8, 1, 3, []int{0})
}

// P21.1 (R3): what is handed in is not changed, and files, pages of others stay.
func TestSplitBeside(t *testing.T) {
	p := newPlace(t, 100, 4)
	cols := []int{1, 0, 9, 9}
	l := [][]api.Value{num(1, 2), num(3, 4), num(1, 2)}
	file := write(t, p, l)
	w := newWriter(t, beside(p))
	wantErr(t, "Put", w.Put(num(5)), api.OK)
	parts, e := fanout.Split(p, file, 1, 1, 3, cols[:2])
	wantErr(t, "Split", e, api.OK)
	wantParts(t, p, parts, l, 1, 1, 3, []int{1, 0})
	if !slices.Equal(cols, []int{1, 0, 9, 9}) {
		t.Error(cols)
	}
	done, e := w.Done()
	wantErr(t, "Done", e, api.OK)
	wantRows(t, p, done, [][]api.Value{num(5)})
	wantHeld(t, p, append([]int{file, done}, parts...)...)
}
