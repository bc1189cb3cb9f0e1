package loops_test

import (
	"math"
	"math/big"
	"math/rand"
	"testing"

	"commissary/api"
	"commissary/disk"
	"commissary/ledger"
	"commissary/loops"
	"commissary/spill"
	"commissary/value"
)

// wantJoin asks for the rows of a new file, and that no more pages are held, and read, than may be.
func wantJoin(t testing.TB, j loops.Job, want [][]api.Value) {
	t.Helper()
	p := j.Place
	ahead, free, was := p.Disk.Files(), p.Left(), p.Disk.Meter().Reads
	file, e := loops.Join(j)
	wantErr(t, "Join", e, api.OK)
	wantHeld(t, p, 1, append(ahead, file)...)
	if n, most := p.Disk.Meter().Reads-was, loops.Reads(size(t, p, j.Left), size(t, p, j.Right), free-1); n > most {
		t.Fatalf("%d pages were read, not %d", n, most)
	}
	if n := p.Ledger.Peak(p.Account); n != 1+free {
		t.Fatalf("%d pages were held, of %d that were left", n-1, free)
	}
	wantRows(t, p, file, want)
	p.Remove(file)
}

func wantNotJoin(t testing.TB, j loops.Job, want api.Errno) {
	t.Helper()
	ahead := j.Place.Disk.Files()
	if file, e := loops.Join(j); file != 0 || e != want {
		t.Fatalf("Join = %d, %d, not error %d", file, e, want)
	}
	wantHeld(t, j.Place, 1, ahead...)
}

// P22.1, P22.3: the writer's page counts among those that are left.
func TestJoin(t *testing.T) {
	l, r := halves(0, 9), halves(5, 12)
	for left := 3; left < 9; left++ {
		for _, kind := range kinds {
			p := newPlace(t, 200, left)
			j := loops.Job{Place: p, Join: kind, On: equal(0, 3), Left: write(t, p, l), Right: write(t, p, r), Wide: 3}
			if left == 3 {
				wantNotJoin(t, j, api.ErrBudget)
				continue
			}
			wantJoin(t, j, told(kind, l, r, meets, 3))
			none := write(t, p, nil)
			j.Left = none
			wantJoin(t, j, nil)
			j.Left, j.Right = j.Right, none
			wantJoin(t, j, told(kind, r, nil, meets, 3))
			j.Left = none
			wantJoin(t, j, nil)
		}
	}
}

// P22.1: what a writer refuses goes ahead of what Into does, which goes by its own order.
func TestJoinRefused(t *testing.T) {
	p := newPlace(t, 100, 4)
	file := write(t, p, nums(1, 2))
	good := loops.Job{Place: p, Join: api.JoinInner, On: always, Left: file, Right: file, Wide: 1}
	kind, wide, left, right, on := good, good, good, good, good
	kind.Join, wide.Wide, left.Left, right.Right, on.On = 5, 33, 99, 99, api.Expr{}
	both := kind
	both.Left = 99
	for _, c := range []struct {
		j    loops.Job
		want api.Errno
	}{
		{good, api.OK}, {kind, api.ErrArg}, {wide, api.ErrArg}, {left, api.ErrNone}, {right, api.ErrNone}, {both, api.ErrArg}, {on, api.ErrExpr},
	} {
		if c.want == api.OK {
			wantJoin(t, c.j, told(api.JoinInner, nums(1, 2), nums(1, 2), func(_, _ []api.Value) bool { return true }, 1))
		} else {
			wantNotJoin(t, c.j, c.want)
		}
		for _, q := range []struct {
			place spill.Place
			want  api.Errno
		}{
			{spill.Place{}, api.ErrClosed}, {spill.Place{Disk: p.Disk}, api.ErrClosed}, {spill.Place{Ledger: p.Ledger}, api.ErrClosed},
			{spill.Place{Disk: p.Disk, Ledger: new(ledger.Ledger)}, api.ErrClosed}, {spill.Place{Disk: new(disk.Disk), Ledger: p.Ledger}, api.ErrClosed},
			{spill.Place{Disk: p.Disk, Ledger: p.Ledger, Account: 9}, api.ErrNone}, {spill.Place{Disk: p.Disk, Ledger: p.Ledger, Account: -1}, api.ErrNone},
			{newPlace(t, 10, 0), api.ErrBudget},
		} {
			j := c.j
			j.Place = q.place
			if file, e := loops.Join(j); file != 0 || e != q.want {
				t.Error(file, e, q.want)
			}
		}
		wantHeld(t, p, 1, file)
	}
	for range api.MaxTemps - 1 {
		p.Disk.Create()
	}
	for _, j := range []loops.Job{good, kind, left, on} {
		wantNotJoin(t, j, api.ErrFull)
	}
}

// P22.1: a file that is not there is none, even if the new one's number is its own.
func TestJoinOfNextFile(t *testing.T) {
	p := newPlace(t, 100, 5)
	file := write(t, p, nums(1))
	for next := file + 1; next < file+13; next += 3 {
		for i, sides := range [][2]int{{next, file}, {file, next + 1}, {next + 2, next + 2}} {
			wantNotJoin(t, loops.Job{Place: p, Join: kinds[(next+i)%4], On: always, Left: sides[0], Right: sides[1], Wide: 1}, api.ErrNone)
		}
	}
}

// P22.1: with 3 pages left, and with less, there are too few for Into, whatever it is.
func TestJoinInFewPages(t *testing.T) {
	for left := 1; left <= 3; left++ {
		p := newPlace(t, 100, left)
		file := write(t, p, nil)
		wantNotJoin(t, loops.Job{Place: p, Join: api.JoinSemi, On: always, Left: file, Right: file}, api.ErrBudget)
		wantNotJoin(t, loops.Job{Place: p, Join: api.JoinSemi, On: always, Left: file, Right: 9}, api.ErrNone)
		wantNotJoin(t, loops.Job{Place: p, Join: 0, On: always, Left: file, Right: 9}, api.ErrArg)
	}
}

// P22.1: at a fault at each deed in turn, and on a disk that is full, there is no new file.
func TestJoinFaults(t *testing.T) {
	l, r := halves(0, 7), halves(2, 9) // 4 pages each
	for _, kind := range kinds {
		rows := told(kind, l, r, meets, 3)
		for _, left := range []int{4, 5, 7} {
			p := newPlace(t, 100, left)
			j := loops.Job{Place: p, Join: kind, On: equal(0, 3), Left: write(t, p, l), Right: write(t, p, r), Wide: 3}
			ahead := p.Disk.Meter()
			file, e := loops.Join(j)
			wantErr(t, "Join", e, api.OK)
			m := p.Disk.Meter()
			reads, writes := m.Reads-ahead.Reads, m.Writes-ahead.Writes
			if reads != 4+4*turns(l, left-3) || writes != size(t, p, file) {
				t.Fatal(reads, writes)
			}
			wantRows(t, p, file, rows)
			for at := 1; at <= reads+writes; at++ {
				p := newPlace(t, 100, left, 8+at)
				j.Place, j.Left, j.Right = p, write(t, p, l), write(t, p, r)
				wantNotJoin(t, j, api.ErrFault)
				wantRows(t, p, j.Left, l)
				wantRows(t, p, j.Right, r)
			}
			for room := 8; room < 8+writes; room++ {
				p := newPlace(t, room, left)
				j.Place, j.Left, j.Right = p, write(t, p, l), write(t, p, r)
				wantNotJoin(t, j, api.ErrFull)
			}
			p = newPlace(t, 8+writes, left)
			j.Place, j.Left, j.Right = p, write(t, p, l), write(t, p, r)
			wantJoin(t, j, rows)
		}
	}
}

// P22.1: what is refused of rows leaves no new file, however many rows were told ahead.
func TestJoinErrs(t *testing.T) {
	l := halves(0, 20)
	div := op(api.OpGe, op(api.OpDiv, lit(value.Int(0)), op(api.OpSub, col(0), lit(value.Int(19)))), lit(value.Int(0)))
	wide := [][]api.Value{make([]api.Value, 30)}
	for _, kind := range kinds {
		p := newPlace(t, 500, 4)
		j := loops.Job{Place: p, Join: kind, On: div, Left: write(t, p, l), Right: write(t, p, nums(1, 2)), Wide: 1}
		wantNotJoin(t, j, api.ErrArith)
		j.Right = odd(t, p, nums(1))
		wantNotJoin(t, j, api.ErrPage)
		j.Right, j.On = write(t, p, wide), always
		if kind == api.JoinInner || kind == api.JoinLeft {
			wantNotJoin(t, j, api.ErrLong)
		} else {
			wantJoin(t, j, told(kind, l, wide, func(_, _ []api.Value) bool { return true }, 0))
		}
	}
}

// P22.2: left, and right as often as it is read; what is too much is capped.
func TestReads(t *testing.T) {
	const cap, most, least = 1<<53 - 1, math.MaxInt, math.MinInt
	for _, c := range []struct{ left, right, pages, want int }{
		{10, 5, 4, 35}, {0, 0, 3, 0}, {0, 5, 3, 5}, {0, 5, 100, 5}, {5, 0, 3, 5}, {1, 5, 3, 6}, {2, 5, 3, 12}, {3, 5, 3, 18},
		{2, 5, 4, 7}, {3, 5, 4, 13}, {4, 5, 4, 14}, {5, 5, 4, 20}, {98, 7, 100, 105}, {99, 7, 100, 113}, {1, 1, 3, 2},
		{-1, 5, 4, 0}, {5, -1, 4, 0}, {-1, -1, 4, 0}, {least, 5, 4, 0}, {5, least, 4, 0},
		{10, 5, 2, 0}, {10, 5, 1, 0}, {10, 5, 0, 0}, {10, 5, -1, 0}, {10, 5, least, 0}, {10, 5, least + 1, 0}, {0, 5, 2, 0}, {most, most, 2, 0},
		{cap, 0, 3, cap}, {cap - 1, 0, 3, cap - 1}, {cap + 1, 0, 3, cap}, {0, cap, 3, cap}, {0, cap - 1, 3, cap - 1}, {0, cap + 1, 3, cap},
		{most, 0, 3, cap}, {0, most, 3, cap}, {most, most, 3, cap}, {most, most, most, cap}, {most, 1, most, cap}, {1, most, most, cap},
		{1, cap, 3, cap}, {1, cap - 1, 3, cap}, {1, cap - 2, 3, cap - 1}, {cap, 1, most, cap}, {cap - 1, 1, most, cap}, {cap - 2, 1, most, cap - 1},
		{1 << 32, 1 << 32, 3, cap}, {1 << 26, 1 << 26, 3, 1<<52 + 1<<26}, {1 << 27, 1 << 26, 3, cap}, {1 << 27, 1<<26 - 1, 3, cap}, {1 << 27, 1<<26 - 2, 3, cap - 1<<27 + 1},
		{1 << 40, 1 << 20, 1<<10 + 2, 1<<40 + 1<<50}, {3 << 61, 1 << 3, most, cap}, {5, 7, most, 12},
	} {
		if got := loops.Reads(c.left, c.right, c.pages); got != c.want {
			t.Errorf("Reads(%d, %d, %d) = %d, not %d", c.left, c.right, c.pages, got, c.want)
		}
	}
}

// P22.2: numbers of any size, held against a count that has no bounds.
func TestReadsDrawn(t *testing.T) {
	rnd := rand.New(rand.NewSource(22))
	draw := func() int { return int(rnd.Uint64()>>1) >> rnd.Intn(63) }
	for range 20000 {
		left, right, pages := draw(), draw(), draw()
		want := new(big.Int)
		if pages >= 3 {
			kept := big.NewInt(int64(pages - 2))
			turns := new(big.Int).Add(big.NewInt(int64(left)), kept)
			turns.Sub(turns, big.NewInt(1)).Div(turns, kept)
			if left == 0 {
				turns.SetInt64(1)
			}
			want.Mul(turns, big.NewInt(int64(right)))
			want.Add(want, big.NewInt(int64(left)))
		}
		if most := big.NewInt(1<<53 - 1); want.Cmp(most) > 0 {
			want = most
		}
		if got := loops.Reads(left, right, pages); big.NewInt(int64(got)).Cmp(want) != 0 {
			t.Fatalf("Reads(%d, %d, %d) = %d, not %v", left, right, pages, got, want)
		}
	}
}
