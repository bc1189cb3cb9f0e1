package loops_test

import (
	"math"
	"math/rand"
	"slices"
	"strings"
	"testing"

	"commissary/api"
	"commissary/disk"
	"commissary/ledger"
	"commissary/loops"
	"commissary/page"
	"commissary/spill"
	"commissary/value"
)

// wantNotInto asks that a job is refused, with a writer beside its place, and that nothing is left of it.
func wantNotInto(t testing.TB, j loops.Job, want api.Errno) {
	t.Helper()
	ahead := j.Place.Disk.Files()
	w := newWriter(t, beside(j.Place))
	wantErr(t, "Into", loops.Into(j, w), want)
	w.Drop()
	wantHeld(t, j.Place, 1, ahead...)
}

// P22.1: a kind, or Wide, that may not be goes ahead of all else.
func TestIntoKinds(t *testing.T) {
	p := newPlace(t, 100, 5)
	left, right := write(t, p, nums(1, 2)), write(t, p, nums(2, 3))
	for _, c := range []struct {
		join, wide int
		want       api.Errno
	}{
		{api.JoinInner, 0, api.OK}, {api.JoinLeft, 1, api.OK}, {api.JoinSemi, api.MaxCols, api.OK}, {api.JoinAnti, 5, api.OK},
		{api.JoinFirst, 1, api.ErrArg}, {-1, 1, api.ErrArg}, {api.JoinAnti + 1, 1, api.ErrArg}, {math.MinInt, 1, api.ErrArg}, {math.MaxInt, 1, api.ErrArg},
		{api.JoinInner, -1, api.ErrArg}, {api.JoinLeft, api.MaxCols + 1, api.ErrArg}, {api.JoinSemi, math.MaxInt, api.ErrArg}, {api.JoinAnti, math.MinInt, api.ErrArg},
		{0, -1, api.ErrArg},
	} {
		j := loops.Job{Place: p, Join: c.join, On: equal(0, 1), Left: left, Right: right, Wide: c.wide}
		if c.want == api.OK {
			wantInto(t, j, nums(1, 2), nums(2, 3), told(c.join, nums(1, 2), nums(2, 3), meets, c.wide))
			continue
		}
		wantNotInto(t, j, c.want)
		j.Left, j.Right = 77, -1
		wantNotInto(t, j, c.want)
		j.On = api.Expr{}
		for _, q := range []spill.Place{{}, {Disk: p.Disk}, {Ledger: p.Ledger}, newPlace(t, 0, 0)} {
			j.Place = q
			wantErr(t, "Into", loops.Into(j, nil), c.want)
		}
	}
}

// P22.1: what Size refuses of the left, of the right file goes ahead of too few pages.
func TestIntoOfNoFile(t *testing.T) {
	for left := range 5 {
		p := newPlace(t, 10, left)
		file, gone := write(t, p, nums(1)), write(t, p, nums(2))
		p.Remove(gone)
		for _, none := range []int{0, -1, gone, 99, math.MaxInt, math.MinInt} {
			for _, sides := range [][2]int{{file, none}, {none, file}, {none, none}} {
				for _, kind := range kinds {
					j := loops.Job{Place: p, Join: kind, On: always, Left: sides[0], Right: sides[1], Wide: 1}
					wantNotInto(t, j, api.ErrNone)
					j.Place.Ledger = nil
					wantErr(t, "Into", loops.Into(j, nil), api.ErrNone)
					for _, d := range []*disk.Disk{nil, new(disk.Disk)} {
						j.Place.Disk = d
						wantErr(t, "Into", loops.Into(j, nil), api.ErrClosed)
					}
				}
			}
		}
	}
}

// P22.1: less than 3 pages are too few, whatever the files.
func TestIntoInFewPages(t *testing.T) {
	for left := range 6 {
		for _, l := range [][][]api.Value{nil, nums(1), halves(0, 9)} {
			p := newPlace(t, 100, left)
			file := write(t, p, l)
			for _, kind := range kinds {
				j := loops.Job{Place: p, Join: kind, On: op(api.OpEq, col(0), lit(value.Null())), Left: file, Right: file, Wide: 3}
				if left >= 3 {
					wantInto(t, j, l, l, told(kind, l, l, func(_, _ []api.Value) bool { return false }, 3))
					continue
				}
				deeds := p.Disk.Deeds()
				wantNotInto(t, j, api.ErrBudget)
				if p.Disk.Deeds() != deeds {
					t.Error(left, kind)
				}
			}
		}
	}
	p := newPlace(t, 10, 5)
	closed, e := p.Ledger.Open(0, 1)
	wantErr(t, "Open", e, api.OK)
	wantErr(t, "Close", p.Ledger.Close(closed), api.OK)
	file := write(t, p, nums(1))
	for _, q := range []spill.Place{
		{Disk: p.Disk}, {Disk: p.Disk, Ledger: new(ledger.Ledger)}, {Disk: p.Disk, Ledger: p.Ledger, Account: 9}, {Disk: p.Disk, Ledger: p.Ledger, Account: closed},
	} {
		wantErr(t, "Into", loops.Into(loops.Job{Place: q, Join: api.JoinInner, On: always, Left: file, Right: file}, nil), api.ErrBudget)
	}
	wantHeld(t, p, 1, file)
}

// P22.1, P22.3: rows that meet none, one, several of the other side, without rows on the left, on the right, on both.
func TestIntoMeets(t *testing.T) {
	null := [][]api.Value{{value.Null()}}
	for _, c := range []struct{ left, right [][]api.Value }{
		{nil, nil},
		{nil, nums(1, 2)},
		{nums(1, 2), nil},
		{nums(1), nums(1)},
		{nums(1), nums(2)},
		{nums(1, 2, 3), nums(2, 3, 3, 4)},
		{nums(1, 1, 2), nums(1, 1, 1)},
		{nums(5, 5, 5), nums(5)},
		{append(nums(1), null...), append(nums(1), null...)},
		{null, nums(1)},
	} {
		for _, kind := range kinds {
			for left := 3; left < 6; left++ {
				p := newPlace(t, 100, left)
				j := loops.Job{Place: p, Join: kind, On: equal(0, 1), Left: write(t, p, c.left), Right: write(t, p, c.right), Wide: 1}
				wantInto(t, j, c.left, c.right, told(kind, c.left, c.right, meets, 1))
				j.Right, j.On = j.Left, always
				wantInto(t, j, c.left, c.left, told(kind, c.left, c.left, func(_, _ []api.Value) bool { return true }, 1))
			}
		}
	}
}

// P22.1: rows of the left side that fit all into the pages that are left, just so, and one more.
func TestIntoTurns(t *testing.T) {
	for left := 3; left <= 6; left++ {
		for n := 2*(left-2) - 2; n <= 6*(left-2)+1; n++ {
			for _, kind := range kinds {
				p := newPlace(t, 500, left)
				l, r := halves(0, n), append(nums(0, 3, 3), nums(slices.Repeat([]int{1}, 60)...)...)
				j := loops.Job{Place: p, Join: kind, On: equal(0, 3), Left: write(t, p, l), Right: write(t, p, r), Wide: 1}
				wantInto(t, j, l, r, told(kind, l, r, meets, 1))
			}
		}
	}
	for _, c := range []struct{ left, pages, reads int }{
		{3, 1, 1 + 4}, {3, 2, 2 + 8}, {3, 10, 10 + 40}, {4, 2, 2 + 4}, {4, 3, 3 + 8}, {7, 5, 5 + 4}, {7, 6, 6 + 8}, {7, 10, 10 + 8}, {7, 11, 11 + 12}, {7, 0, 4},
	} {
		p := newPlace(t, 500, c.left)
		j := loops.Job{Place: p, Join: api.JoinSemi, On: equal(0, 3), Left: write(t, p, halves(0, 2*c.pages)), Right: write(t, p, halves(0, 8))}
		ahead := p.Disk.Meter().Reads
		w := newWriter(t, beside(p))
		wantErr(t, "Into", loops.Into(j, w), api.OK)
		if n := p.Disk.Meter().Reads - ahead; n != c.reads || n != loops.Reads(c.pages, 4, c.left) {
			t.Errorf("%d pages in %d: %d are read, not %d", c.pages, c.left, n, c.reads)
		}
		w.Drop()
	}
}

// P22.1: rows in pages that are not full are kept in pages that are.
func TestIntoOfThinPages(t *testing.T) {
	p := newPlace(t, 400, 3)
	file, e := p.Disk.Create()
	wantErr(t, "Create", e, api.OK)
	var l [][]api.Value
	for n := range 60 {
		l = append(l, num(n))
		pages, _ := page.Fill(nums(n))
		wantErr(t, "Append", p.Disk.Append(file, pages[0]), api.OK)
		wantErr(t, "Append", p.Disk.Append(file, page.New()), api.OK)
	}
	r := nums(3, 50, 50, 99)
	for _, kind := range kinds { // 3 turns: 23 rows fit into a page
		wantInto(t, loops.Job{Place: p, Join: kind, On: equal(0, 1), Left: file, Right: write(t, p, r), Wide: 1}, l, r, told(kind, l, r, meets, 1))
		wantInto(t, loops.Job{Place: p, Join: kind, On: equal(0, 1), Left: write(t, p, r), Right: file, Wide: 1}, r, l, told(kind, r, l, meets, 1))
	}
}

// P22.1: an On that may not be, that is no condition of rows, that comes to no truth; of no two rows it is not asked.
func TestIntoOn(t *testing.T) {
	deep := always
	for range api.MaxDepth {
		deep = op(api.OpNot, deep)
	}
	agg := api.Expr{Kind: api.ExprAgg, N: api.AggRows}
	l := nums(1, 2)
	for _, c := range []struct {
		on   api.Expr
		want api.Errno
		all  bool
	}{
		{api.Expr{}, api.ErrExpr, false}, {op(99, always), api.ErrExpr, false}, {deep, api.ErrExpr, false}, {col(api.MaxCols), api.ErrExpr, false}, {lit(value.Int(-1)), api.ErrExpr, false},
		{agg, api.ErrArg, false}, {op(api.OpAnd, lit(value.Bool(false)), op(api.OpEq, agg, agg)), api.ErrArg, false},
		{op(api.OpDiv, col(0), lit(value.Int(0))), api.ErrArith, false}, {op(api.OpAdd, always, always), api.ErrArith, false},
		{lit(value.Int(1)), api.OK, false}, {lit(value.Null()), api.OK, false}, {lit(value.Text("TRUE")), api.OK, false}, {col(0), api.OK, false}, {col(31), api.OK, false},
		{op(api.OpAnd, lit(value.Bool(false)), op(api.OpDiv, col(0), lit(value.Int(0)))), api.OK, false},
		{op(api.OpNull, col(2)), api.OK, true}, {deep.L[0], api.OK, false}, {deep.L[0].L[0], api.OK, true},
	} {
		for _, kind := range kinds {
			p := newPlace(t, 100, 3)
			file, none := write(t, p, l), write(t, p, nil)
			j := loops.Job{Place: p, Join: kind, On: c.on, Left: file, Right: file, Wide: 1}
			holds := func(_, _ []api.Value) bool { return c.all }
			if c.want == api.OK {
				wantInto(t, j, l, l, told(kind, l, l, holds, 1))
			} else {
				wantNotInto(t, j, c.want)
			}
			j.Right = none
			wantInto(t, j, l, nil, told(kind, l, nil, holds, 1))
			j.Left, j.Right = none, file
			wantInto(t, j, nil, l, nil)
		}
	}
}

// P22.1: each two rows are held against each other, even if one has met another row: On may err of any.
func TestIntoErrsOnce(t *testing.T) {
	// 1 / (#0 + #1 - 7) = 1: it errs of two rows that are 7 together.
	sum := op(api.OpSub, op(api.OpAdd, col(0), col(1)), lit(value.Int(7)))
	on := op(api.OpGe, op(api.OpDiv, lit(value.Int(0)), sum), lit(value.Int(0)))
	l := append(nums(slices.Repeat([]int{100}, 30)...), num(4))
	for _, c := range []struct {
		right [][]api.Value
		want  api.Errno
	}{
		{nums(1, 2, 4, 5), api.OK}, {nums(1, 2, 4, 3), api.ErrArith}, {nums(3, 1), api.ErrArith}, {nums(3), api.ErrArith},
	} {
		for _, kind := range kinds {
			for left := 3; left < 5; left++ {
				p := newPlace(t, 100, left)
				j := loops.Job{Place: p, Join: kind, On: on, Left: write(t, p, l), Right: write(t, p, c.right), Wide: 1}
				if c.want != api.OK {
					wantNotInto(t, j, c.want)
					continue
				}
				wantInto(t, j, l, c.right, told(kind, l, c.right, func(_, _ []api.Value) bool { return true }, 1))
			}
		}
	}
}

// P22.1: rows that have too many values, or bytes, when they are told together; those that are not told together may have.
func TestIntoTooLong(t *testing.T) {
	wide := func(n int) [][]api.Value { return [][]api.Value{make([]api.Value, n)} }
	texts := func(n int) [][]api.Value {
		return [][]api.Value{{value.Text(strings.Repeat("t", n)), value.Text(strings.Repeat("t", n))}}
	}
	never := lit(value.Bool(false))
	for _, c := range []struct {
		left, right [][]api.Value
		on          api.Expr
		wide        int
		inner, ofL  api.Errno // of JoinInner, of JoinLeft
	}{
		{wide(16), wide(16), always, 16, api.OK, api.OK},
		{wide(16), wide(17), always, 17, api.ErrLong, api.ErrLong},
		{wide(32), wide(1), always, 1, api.ErrLong, api.ErrLong},
		{wide(32), wide(32), never, 0, api.OK, api.OK},
		{wide(32), wide(32), never, 1, api.OK, api.ErrLong},
		{wide(20), wide(20), never, 12, api.OK, api.OK},
		{wide(20), wide(20), never, 13, api.OK, api.ErrLong},
		{texts(64), texts(58), always, 2, api.OK, api.OK}, // 253 bytes
		{texts(64), texts(59), always, 2, api.ErrLong, api.ErrLong},
		{texts(64), texts(64), never, 2, api.OK, api.OK},
		{[][]api.Value{slices.Concat(texts(64)[0], texts(57)[0])}, nil, always, 2, api.OK, api.OK},
		{[][]api.Value{slices.Concat(texts(64)[0], texts(57)[0])}, nil, always, 3, api.OK, api.ErrLong},
	} {
		for _, kind := range kinds {
			p := newPlace(t, 100, 3)
			j := loops.Job{Place: p, Join: kind, On: c.on, Left: write(t, p, c.left), Right: write(t, p, c.right), Wide: c.wide}
			want := []api.Errno{c.inner, c.ofL, api.OK, api.OK}[kind-api.JoinInner]
			if want != api.OK {
				wantNotInto(t, j, want)
				continue
			}
			holds := c.on.V == value.Bool(true)
			wantInto(t, j, c.left, c.right, told(kind, c.left, c.right, func(_, _ []api.Value) bool { return holds }, c.wide))
		}
	}
}

// P22.1: columns of On stand for places of both rows, one behind the other, as long as they are; Wide is of nulls alone.
func TestIntoRagged(t *testing.T) {
	l := [][]api.Value{num(1), num(1, 2), num(7, 2), {}, num(3, 1)}
	r := [][]api.Value{num(2), num(9, 2), {}, num(1, 1)}
	holds := func(a, b []api.Value) bool {
		both := slices.Concat(a, b)
		return len(both) > 2 && both[1] == both[2]
	}
	for _, kind := range kinds {
		for _, wide := range []int{0, 1, 2, 30} {
			p := newPlace(t, 100, 4)
			j := loops.Job{Place: p, Join: kind, On: equal(1, 2), Left: write(t, p, l), Right: write(t, p, r), Wide: wide}
			wantInto(t, j, l, r, told(kind, l, r, holds, wide))
		}
	}
}

// P22.1: what a writer refuses, if a row is told at all.
func TestIntoWriters(t *testing.T) {
	p := newPlace(t, 100, 3)
	file, none := write(t, p, nums(1, 2)), write(t, p, nil)
	dropped, ended := newWriter(t, p), newWriter(t, p)
	dropped.Drop()
	wantErr(t, "Put", ended.Put(num(4)), api.OK)
	done, e := ended.Done()
	wantErr(t, "Done", e, api.OK)
	for _, w := range []*spill.Writer{nil, new(spill.Writer), dropped, ended} {
		for _, kind := range kinds {
			j := loops.Job{Place: p, Join: kind, On: equal(0, 1), Left: file, Right: file, Wide: 1}
			want := api.ErrClosed
			if kind == api.JoinAnti { // each row meets one
				want = api.OK
			}
			wantErr(t, "Into", loops.Into(j, w), want)
			j.Left = none
			wantErr(t, "Into", loops.Into(j, w), api.OK)
			wantHeld(t, p, 1, file, none, done)
		}
	}
	wantRows(t, p, done, nums(4))
}

// P22.1: a writer of the same account has a page of it; rows come behind those that it has.
func TestIntoOwnWriter(t *testing.T) {
	p := newPlace(t, 100, 4)
	file := write(t, p, halves(0, 4))
	w := newWriter(t, p)
	wantErr(t, "Put", w.Put(num(9)), api.OK)
	j := loops.Job{Place: p, Join: api.JoinSemi, On: equal(0, 3), Left: file, Right: file}
	wantErr(t, "Into", loops.Into(j, w), api.OK)
	wantErr(t, "Into", loops.Into(j, w), api.OK)
	wantHeld(t, p, 2, file, file+1)
	if p.Ledger.Peak(p.Account) != 5 || w.Len() != 9 {
		t.Error(p.Ledger.Peak(p.Account), w.Len())
	}
	done, e := w.Done()
	wantErr(t, "Done", e, api.OK)
	wantRows(t, p, done, append(append(halves(0, 4), halves(0, 4)...), num(9)))
	p = newPlace(t, 100, 3)
	j.Place, j.Left, j.Right = p, write(t, p, nil), 1
	w = newWriter(t, p)
	wantErr(t, "Into", loops.Into(j, w), api.ErrBudget)
	w.Drop()
	wantHeld(t, p, 1, 1)
}

// P22.1: what is no page of rows on either side; the right one is read even if the left one has no rows.
func TestIntoOfNoPages(t *testing.T) {
	for n := range 6 {
		for _, kind := range kinds {
			p := newPlace(t, 100, 3)
			bad, file, none := odd(t, p, halves(0, n)), write(t, p, nums(1, 2)), write(t, p, nil)
			for _, sides := range [][2]int{{bad, file}, {file, bad}, {bad, bad}, {none, bad}, {bad, none}} {
				wantNotInto(t, loops.Job{Place: p, Join: kind, On: equal(0, 1), Left: sides[0], Right: sides[1], Wide: 3}, api.ErrPage)
			}
		}
	}
}

// P22.1: at a fault at each deed in turn, and on a disk that is full, no more is held, and the files stay.
func TestIntoFaults(t *testing.T) {
	l, r := halves(0, 7), halves(3, 9) // 4 and 3 pages
	holds := func(a, b []api.Value) bool { return true }
	for _, kind := range kinds {
		on, rows := always, told(kind, l, r, holds, 3)
		if kind == api.JoinInner || kind == api.JoinLeft {
			on, rows = equal(0, 3), told(kind, l, halves(3, 9), meets, 3)
		}
		pages, e := page.Fill(rows)
		wantErr(t, "Fill", e, api.OK)
		for _, left := range []int{3, 4, 6} {
			deeds := 4 + turns(l, left-2)*3 + max(0, len(pages)-1) // the last page is Done's
			for at := 1; at <= deeds+1; at++ {
				p := newPlace(t, 100, left, 7+at)
				j := loops.Job{Place: p, Join: kind, On: on, Left: write(t, p, l), Right: write(t, p, r), Wide: 3}
				want := api.ErrFault
				if at > deeds {
					want = api.OK
				}
				wantNotInto(t, j, want)
				if want == api.ErrFault {
					wantRows(t, p, j.Left, l)
					wantRows(t, p, j.Right, r)
				}
			}
			for room := 7; room < 7+len(pages); room++ {
				p := newPlace(t, room, left)
				j := loops.Job{Place: p, Join: kind, On: on, Left: write(t, p, l), Right: write(t, p, r), Wide: 3}
				want := api.ErrFull
				if room >= 7+len(pages)-1 {
					want = api.OK
				}
				wantNotInto(t, j, want)
			}
		}
	}
}

// P22.1 (R3): what is handed in is not changed, and other accounts, files stay.
func TestIntoBeside(t *testing.T) {
	p := newPlace(t, 100, 3)
	other := newWriter(t, beside(p))
	wantErr(t, "Put", other.Put(num(5)), api.OK)
	list := []api.Expr{col(0), col(1), col(9)}
	j := loops.Job{Place: p, Join: api.JoinInner, On: op(api.OpEq, list[:2]...), Left: write(t, p, nums(1, 2)), Right: write(t, p, nums(2, 2)), Wide: 1}
	w := newWriter(t, beside(p))
	wantErr(t, "Into", loops.Into(j, w), api.OK)
	if list[0].N != 0 || list[1].N != 1 || list[2].N != 9 {
		t.Error(list)
	}
	done, e := w.Done()
	wantErr(t, "Done", e, api.OK)
	wantRows(t, p, done, [][]api.Value{num(2, 2), num(2, 2)})
	first, e := other.Done()
	wantErr(t, "Done", e, api.OK)
	wantRows(t, p, first, nums(5))
	wantHeld(t, p, 1, first, j.Left, j.Right, done)
}

// P22.1, P22.2, P22.3: of drawn rows just that is told which the join means, in any number of pages.
func TestIntoDrawn(t *testing.T) {
	rnd := rand.New(rand.NewSource(22))
	draw := func() [][]api.Value {
		var l [][]api.Value
		some := 1 + rnd.Intn(60)
		for range rnd.Intn(90) {
			first := value.Int(rnd.Intn(some))
			if rnd.Intn(9) == 0 {
				first = value.Null()
			}
			l = append(l, []api.Value{first, value.Int(rnd.Intn(9)), value.Text(strings.Repeat("t", rnd.Intn(api.MaxText+1)))})
		}
		return l
	}
	for range 200 {
		l, r := draw(), draw()
		kind, left := kinds[rnd.Intn(4)], 3+rnd.Intn(12)
		on, holds := equal(0, 3), meets
		if rnd.Intn(2) == 0 {
			on = op(api.OpAnd, op(api.OpLe, col(1), col(4)), on)
			holds = func(a, b []api.Value) bool { return a[1].N <= b[1].N && meets(a, b) }
		}
		p := newPlace(t, 2000, left)
		j := loops.Job{Place: p, Join: kind, On: on, Left: write(t, p, l), Right: write(t, p, r), Wide: 3}
		wantInto(t, j, l, r, told(kind, l, r, holds, 3))
	}
}
