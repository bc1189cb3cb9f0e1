package ledger_test

import (
	"math"
	"math/rand"
	"slices"
	"testing"

	"commissary/api"
	"commissary/ledger"
)

func newLedger(t testing.TB, grant int) *ledger.Ledger {
	t.Helper()
	l, e := ledger.New(grant)
	if e != api.OK || l == nil {
		t.Fatalf("New(%d) = %v, %d", grant, l, e)
	}
	return l
}

func open(t testing.TB, l *ledger.Ledger, under, grant int) int {
	t.Helper()
	n, e := l.Open(under, grant)
	if e != api.OK {
		t.Fatalf("Open(%d, %d) = %d, %d", under, grant, n, e)
	}
	return n
}

func wantErr(t testing.TB, what string, got, want api.Errno) {
	t.Helper()
	if got != want {
		t.Fatalf("%s: error %d, not %d", what, got, want)
	}
}

func wantNotOpen(t testing.TB, l *ledger.Ledger, under, grant int, want api.Errno) {
	t.Helper()
	if n, e := l.Open(under, grant); n != 0 || e != want {
		t.Fatalf("Open(%d, %d) = %d, %d, not error %d", under, grant, n, e, want)
	}
}

// told is all that is told of one account.
type told struct{ grant, held, left, peak int }

func wantTold(t testing.TB, l *ledger.Ledger, n int, want told) {
	t.Helper()
	if got := (told{l.Grant(n), l.Held(n), l.Left(n), l.Peak(n)}); got != want {
		t.Fatalf("account %d: %+v, not %+v", n, got, want)
	}
}

func wantAll(t testing.TB, l *ledger.Ledger, total, most int, accounts ...int) {
	t.Helper()
	if l.Total() != total || l.Most() != most {
		t.Fatalf("Total() %d, Most() %d, not %d, %d", l.Total(), l.Most(), total, most)
	}
	if got := l.Accounts(); !slices.Equal(got, accounts) {
		t.Fatalf("Accounts() = %v, not %v", got, accounts)
	}
}

// P6.1, P6.2: grants of the first account that may be, and those that may not.
func TestNew(t *testing.T) {
	for _, grant := range []int{0, 1, 5, api.MaxFrames - 1, api.MaxFrames} {
		l := newLedger(t, grant)
		wantTold(t, l, 0, told{grant: grant, left: grant})
		wantAll(t, l, 0, 0, 0)
	}
	for _, grant := range []int{-1, api.MaxFrames + 1, math.MinInt, math.MaxInt} {
		if l, e := ledger.New(grant); l != nil || e != api.ErrArg {
			t.Errorf("New(%d) = %v, %d", grant, l, e)
		}
	}
}

// Example 1, P6.1, P6.2: what is left is without the grants of those right under.
func TestOpen(t *testing.T) {
	l := newLedger(t, 5)
	if n := open(t, l, 0, 3); n != 1 {
		t.Fatal(n)
	}
	wantTold(t, l, 0, told{grant: 5, left: 2})
	wantTold(t, l, 1, told{grant: 3, left: 3})
	if n := open(t, l, 1, 3); n != 2 {
		t.Fatal(n)
	}
	wantTold(t, l, 0, told{grant: 5, left: 2})
	wantTold(t, l, 1, told{grant: 3})
	wantTold(t, l, 2, told{grant: 3, left: 3})
	if n := open(t, l, 0, 2); n != 3 {
		t.Fatal(n)
	}
	wantTold(t, l, 0, told{grant: 5})
	if n := open(t, l, 0, 0); n != 4 {
		t.Fatal(n)
	}
	wantTold(t, l, 4, told{})
	wantAll(t, l, 0, 0, 0, 1, 2, 3, 4)
}

// P6.1: grants that may not be, and that are more than is left.
func TestOpenRefuses(t *testing.T) {
	l := newLedger(t, 5)
	n := open(t, l, 0, 2)
	wantErr(t, "Take", l.Take(0, 1), api.OK)
	for _, grant := range []int{-1, math.MinInt} {
		wantNotOpen(t, l, 0, grant, api.ErrArg)
		wantNotOpen(t, l, 99, grant, api.ErrArg)
	}
	for _, under := range []int{-1, 2, 99, math.MinInt, math.MaxInt} {
		for _, grant := range []int{0, 1, 6, math.MaxInt} {
			wantNotOpen(t, l, under, grant, api.ErrNone)
		}
	}
	for _, grant := range []int{3, 5, 6, math.MaxInt - 1, math.MaxInt} {
		wantNotOpen(t, l, 0, grant, api.ErrBudget)
		wantNotOpen(t, l, n, grant, api.ErrBudget)
	}
	wantTold(t, l, 0, told{5, 1, 2, 1})
	wantTold(t, l, n, told{grant: 2, left: 2})
	wantAll(t, l, 1, 1, 0, n)
	if k := open(t, l, 0, 2); k != n+1 {
		t.Fatal("a number was taken by what was refused", k)
	}
}

// P6.1: MaxAccounts at a time, the first one too; which refusal is ahead of which.
func TestOpenFull(t *testing.T) {
	l := newLedger(t, 1)
	want := []int{0}
	for n := 1; n < api.MaxAccounts; n++ {
		if got := open(t, l, n/2, 0); got != n {
			t.Fatal(got, n)
		}
		want = append(want, n)
	}
	wantNotOpen(t, l, 0, 0, api.ErrFull)
	wantNotOpen(t, l, 0, 2, api.ErrFull)
	wantNotOpen(t, l, 0, -1, api.ErrArg)
	wantNotOpen(t, l, api.MaxAccounts, 0, api.ErrNone)
	wantAll(t, l, 0, 0, want...)
	wantErr(t, "Close", l.Close(api.MaxAccounts-1), api.OK)
	wantNotOpen(t, l, 0, 2, api.ErrBudget)
	if n := open(t, l, 0, 1); n != api.MaxAccounts {
		t.Fatal(n)
	}
	wantNotOpen(t, l, 0, 0, api.ErrFull)
	want[api.MaxAccounts-1] = api.MaxAccounts
	wantAll(t, l, 0, 0, want...)
}

// P6.1: an account is closed if it holds nothing and has none under it; its grant is left again.
func TestClose(t *testing.T) {
	l := newLedger(t, 9)
	a := open(t, l, 0, 6)
	b := open(t, l, a, 4)
	wantErr(t, "Take", l.Take(b, 3), api.OK)
	wantErr(t, "Close of one with others under it", l.Close(a), api.ErrArg)
	wantErr(t, "Close of one that holds", l.Close(b), api.ErrArg)
	wantErr(t, "Give", l.Give(b, 2), api.OK)
	wantErr(t, "Close of one that holds", l.Close(b), api.ErrArg)
	wantErr(t, "Give", l.Give(b, 1), api.OK)
	wantErr(t, "Close of one with others under it", l.Close(a), api.ErrArg)
	wantTold(t, l, a, told{grant: 6, left: 2})
	wantErr(t, "Close", l.Close(b), api.OK)
	wantTold(t, l, b, told{})
	wantTold(t, l, a, told{grant: 6, left: 6})
	wantTold(t, l, 0, told{grant: 9, left: 3})
	wantAll(t, l, 0, 3, 0, a)
	wantErr(t, "Close again", l.Close(b), api.ErrNone)
	wantErr(t, "Close", l.Close(a), api.OK)
	wantTold(t, l, 0, told{grant: 9, left: 9})
	wantErr(t, "Close of the first", l.Close(0), api.ErrArg)
	wantAll(t, l, 0, 3, 0)
	if n := open(t, l, 0, 1); n != b+1 {
		t.Fatal("a number is used again", n)
	}
}

// P6.1: the first account is never closed, be there others, or pages, or none.
func TestCloseFirst(t *testing.T) {
	l := newLedger(t, 2)
	wantErr(t, "Close(0)", l.Close(0), api.ErrArg)
	open(t, l, 0, 0)
	wantErr(t, "Close(0)", l.Close(0), api.ErrArg)
	wantErr(t, "Take", l.Take(0, 2), api.OK)
	wantErr(t, "Close(0)", l.Close(0), api.ErrArg)
	wantTold(t, l, 0, told{2, 2, 0, 2})
}

// P6.1, P6.2: an account without a grant under one: that one is not closed ahead of it.
func TestCloseEmptyUnder(t *testing.T) {
	l := newLedger(t, 2)
	a := open(t, l, 0, 1)
	b := open(t, l, a, 0)
	wantErr(t, "Close", l.Close(a), api.ErrArg)
	wantErr(t, "Close", l.Close(b), api.OK)
	wantErr(t, "Close", l.Close(a), api.OK)
}

// P6.1, P6.2: of an account that was never opened, or was closed, nothing is done or told.
func TestNoAccount(t *testing.T) {
	l := newLedger(t, 5)
	gone := open(t, l, 0, 3)
	wantErr(t, "Take", l.Take(gone, 2), api.OK)
	wantErr(t, "Give", l.Give(gone, 2), api.OK)
	wantErr(t, "Close", l.Close(gone), api.OK)
	for _, n := range []int{gone, gone + 1, -1, -2, 1000, math.MinInt, math.MaxInt} {
		wantErr(t, "Close", l.Close(n), api.ErrNone)
		for _, pages := range []int{0, 1, 6, math.MaxInt} {
			wantErr(t, "Take", l.Take(n, pages), api.ErrNone)
		}
		wantErr(t, "Take", l.Take(n, -1), api.ErrArg)
		for _, pages := range []int{0, 1, -1, math.MinInt, math.MaxInt} {
			wantErr(t, "Give", l.Give(n, pages), api.ErrNone)
		}
		wantNotOpen(t, l, n, 0, api.ErrNone)
		wantTold(t, l, n, told{})
		wantTold(t, l, 0, told{grant: 5, left: 5})
		wantAll(t, l, 0, 2, 0)
	}
}

// P6.1, P6.2: none, all, one more; what is told behind each.
func TestTakeGive(t *testing.T) {
	l := newLedger(t, 8)
	a := open(t, l, 0, 5)
	wantErr(t, "Take 0", l.Take(a, 0), api.OK)
	wantTold(t, l, a, told{5, 0, 5, 0})
	wantErr(t, "Take one more than all", l.Take(a, 6), api.ErrBudget)
	wantTold(t, l, a, told{5, 0, 5, 0})
	wantErr(t, "Take", l.Take(a, 2), api.OK)
	wantTold(t, l, a, told{5, 2, 3, 2})
	wantErr(t, "Take one more than is left", l.Take(a, 4), api.ErrBudget)
	wantErr(t, "Take all that is left", l.Take(a, 3), api.OK)
	wantTold(t, l, a, told{5, 5, 0, 5})
	wantErr(t, "Take 0", l.Take(a, 0), api.OK)
	wantErr(t, "Take 1", l.Take(a, 1), api.ErrBudget)
	wantTold(t, l, 0, told{8, 0, 3, 0})
	wantAll(t, l, 5, 5, 0, a)
	wantErr(t, "Give 0", l.Give(a, 0), api.OK)
	wantErr(t, "Give one more than is held", l.Give(a, 6), api.ErrArg)
	wantTold(t, l, a, told{5, 5, 0, 5})
	wantErr(t, "Give", l.Give(a, 1), api.OK)
	wantTold(t, l, a, told{5, 4, 1, 5})
	wantErr(t, "Give all", l.Give(a, 4), api.OK)
	wantTold(t, l, a, told{5, 0, 5, 5})
	wantErr(t, "Give 0", l.Give(a, 0), api.OK)
	wantErr(t, "Give 1", l.Give(a, 1), api.ErrArg)
	wantErr(t, "Take", l.Take(a, 3), api.OK)
	wantTold(t, l, a, told{5, 3, 2, 5})
	wantAll(t, l, 3, 5, 0, a)
}

// P6.1: pages below 0, and near the largest ints, change nothing.
func TestWrongPages(t *testing.T) {
	l := newLedger(t, api.MaxFrames)
	a := open(t, l, 0, 7)
	wantErr(t, "Take", l.Take(a, 3), api.OK)
	for _, n := range []int{0, a} {
		for _, pages := range []int{-1, math.MinInt, math.MinInt + 1, math.MinInt + 3, -api.MaxFrames} {
			wantErr(t, "Take", l.Take(n, pages), api.ErrArg)
			wantErr(t, "Give", l.Give(n, pages), api.ErrArg)
		}
		for _, pages := range []int{math.MaxInt, math.MaxInt - 1, math.MaxInt - 3, math.MaxInt - 7, 1 << 62, 1 << 32} {
			wantErr(t, "Take", l.Take(n, pages), api.ErrBudget)
			wantErr(t, "Give", l.Give(n, pages), api.ErrArg)
		}
	}
	wantTold(t, l, 0, told{api.MaxFrames, 0, api.MaxFrames - 7, 0})
	wantTold(t, l, a, told{7, 3, 4, 3})
	wantAll(t, l, 3, 3, 0, a)
}

// P6.2: Most is of all together at one time, not of each one's most, and outlives accounts that are closed.
func TestMost(t *testing.T) {
	l := newLedger(t, 10)
	a, b := open(t, l, 0, 4), open(t, l, 0, 4)
	wantErr(t, "Take", l.Take(a, 4), api.OK)
	wantErr(t, "Give", l.Give(a, 3), api.OK)
	wantErr(t, "Take", l.Take(b, 2), api.OK)
	wantAll(t, l, 3, 4, 0, a, b)
	wantErr(t, "Take", l.Take(0, 2), api.OK)
	wantAll(t, l, 5, 5, 0, a, b)
	wantErr(t, "Take", l.Take(b, 3), api.ErrBudget)
	wantAll(t, l, 5, 5, 0, a, b)
	wantErr(t, "Give", l.Give(b, 2), api.OK)
	wantErr(t, "Close", l.Close(b), api.OK)
	wantAll(t, l, 3, 5, 0, a)
	wantTold(t, l, a, told{4, 1, 3, 4})
	wantTold(t, l, 0, told{10, 2, 4, 2})
}

// P6.3: what an account holds, and what it grants, is taken of one grant.
func TestNested(t *testing.T) {
	l := newLedger(t, 6)
	a := open(t, l, 0, 6)
	wantErr(t, "Take of what is granted away", l.Take(0, 1), api.ErrBudget)
	wantErr(t, "Take", l.Take(a, 2), api.OK)
	b := open(t, l, a, 4)
	wantErr(t, "Take of what is granted away", l.Take(a, 1), api.ErrBudget)
	wantNotOpen(t, l, a, 1, api.ErrBudget)
	wantErr(t, "Take", l.Take(b, 4), api.OK)
	wantErr(t, "Take", l.Take(b, 1), api.ErrBudget)
	wantTold(t, l, a, told{6, 2, 0, 2})
	wantAll(t, l, 6, 6, 0, a, b)
}

// P6.1, P6.2: a ledger of no pages.
func TestNoPages(t *testing.T) {
	l := newLedger(t, 0)
	a := open(t, l, 0, 0)
	for _, n := range []int{0, a} {
		wantErr(t, "Take 0", l.Take(n, 0), api.OK)
		wantErr(t, "Give 0", l.Give(n, 0), api.OK)
		wantErr(t, "Take 1", l.Take(n, 1), api.ErrBudget)
		wantNotOpen(t, l, n, 1, api.ErrBudget)
	}
	wantAll(t, l, 0, 0, 0, a)
}

// R3, R4: the list that is answered is the caller's own; ledgers are apart.
func TestApart(t *testing.T) {
	k, l := newLedger(t, 3), newLedger(t, 3)
	open(t, l, 0, 1)
	wantErr(t, "Take", l.Take(1, 1), api.OK)
	numbers := l.Accounts()
	numbers[0], numbers[1] = 8, 9
	wantAll(t, l, 1, 1, 0, 1)
	wantAll(t, k, 0, 0, 0)
	wantTold(t, k, 0, told{grant: 3, left: 3})
}

// P6.2: of a Ledger that no call made nothing is told or done.
func TestNil(t *testing.T) {
	for _, l := range []*ledger.Ledger{nil, {}} {
		for _, x := range []int{0, 1, -1} {
			wantNotOpen(t, l, x, x, api.ErrClosed)
			wantErr(t, "Close", l.Close(x), api.ErrClosed)
			wantErr(t, "Take", l.Take(x, x), api.ErrClosed)
			wantErr(t, "Give", l.Give(x, x), api.ErrClosed)
			wantTold(t, l, x, told{})
		}
		wantAll(t, l, 0, 0)
	}
}

// plain is a ledger as the document says it, without a map.
type plain struct {
	accounts   []plainAccount
	last, most int
}

type plainAccount struct{ number, under, grant, held, peak int }

func (l *plain) find(n int) int {
	return slices.IndexFunc(l.accounts, func(a plainAccount) bool { return a.number == n })
}

func (l *plain) left(i int) (int, bool) {
	a, leaf := l.accounts[i], true
	rest := a.grant - a.held
	for _, b := range l.accounts {
		if b.under == a.number {
			rest, leaf = rest-b.grant, false
		}
	}
	return rest, leaf
}

func (l *plain) total() int {
	total := 0
	for _, a := range l.accounts {
		total += a.held
	}
	return total
}

func (l *plain) open(under, grant int) (int, api.Errno) {
	i := l.find(under)
	if grant < 0 {
		return 0, api.ErrArg
	}
	if i < 0 {
		return 0, api.ErrNone
	}
	if len(l.accounts) == 256 {
		return 0, api.ErrFull
	}
	if rest, _ := l.left(i); rest < grant {
		return 0, api.ErrBudget
	}
	l.last++
	l.accounts = append(l.accounts, plainAccount{number: l.last, under: under, grant: grant})
	return l.last, api.OK
}

func (l *plain) close(n int) api.Errno {
	i := l.find(n)
	if i < 0 {
		return api.ErrNone
	}
	if _, leaf := l.left(i); n == 0 || l.accounts[i].held != 0 || !leaf {
		return api.ErrArg
	}
	l.accounts = slices.Delete(l.accounts, i, i+1)
	return api.OK
}

func (l *plain) take(n, pages int) api.Errno {
	i := l.find(n)
	if pages < 0 {
		return api.ErrArg
	}
	if i < 0 {
		return api.ErrNone
	}
	if rest, _ := l.left(i); rest < pages {
		return api.ErrBudget
	}
	l.accounts[i].held += pages
	l.accounts[i].peak = max(l.accounts[i].peak, l.accounts[i].held)
	l.most = max(l.most, l.total())
	return api.OK
}

func (l *plain) give(n, pages int) api.Errno {
	i := l.find(n)
	if i < 0 {
		return api.ErrNone
	}
	if pages < 0 || pages > l.accounts[i].held {
		return api.ErrArg
	}
	l.accounts[i].held -= pages
	return api.OK
}

// P6.1, P6.2, P6.3: many calls in any order, held against the plain ledger.
func TestMany(t *testing.T) {
	for seed := range int64(30) {
		r := rand.New(rand.NewSource(seed))
		grant := r.Intn(1 << (seed % 15))
		got, want := newLedger(t, grant), &plain{accounts: []plainAccount{{under: -1, grant: grant}}}
		for range 1000 {
			step(t, r, got, want)
		}
	}
}

// step does one call on both ledgers, and holds all that they tell against each other.
func step(t *testing.T, r *rand.Rand, got *ledger.Ledger, want *plain) {
	t.Helper()
	n, pages := want.last+2-r.Intn(12), r.Intn(8)-1
	if r.Intn(3) == 0 {
		n = r.Intn(want.last + 1)
	}
	switch r.Intn(5) {
	case 0:
		k, e := got.Open(n, pages)
		if l, f := want.open(n, pages); k != l || e != f {
			t.Fatalf("Open(%d, %d) = %d, %d, not %d, %d", n, pages, k, e, l, f)
		}
	case 1:
		wantErr(t, "Close", got.Close(n), want.close(n))
	case 2, 3:
		wantErr(t, "Take", got.Take(n, pages), want.take(n, pages))
	default:
		wantErr(t, "Give", got.Give(n, pages), want.give(n, pages))
	}
	var numbers []int
	for i, a := range want.accounts {
		rest, _ := want.left(i)
		numbers = append(numbers, a.number)
		wantTold(t, got, a.number, told{a.grant, a.held, rest, a.peak})
		if a.held > a.grant || want.total() > want.accounts[0].grant {
			t.Fatal("more is held than was granted", a)
		}
	}
	wantAll(t, got, want.total(), want.most, numbers...)
}
