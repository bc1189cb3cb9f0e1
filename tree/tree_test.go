package tree_test

import (
	"cmp"
	"errors"
	"math"
	"math/rand"
	"slices"
	"strings"
	"testing"

	"commissary/api"
	"commissary/tree"
)

// card is a thing that is ordered by its rank alone: name tells those that stand alike apart.
type card struct {
	rank int
	name string
}

func byRank(a, b card) int { return a.rank - b.rank }

func newTree[T any](t testing.TB, leaves int, order func(a, b T) int) *tree.Tree[T] {
	t.Helper()
	got, e := tree.New(leaves, order)
	if e != api.OK || got == nil {
		t.Fatalf("New(%d, ..) = %v, %d", leaves, got, e)
	}
	return got
}

func wantErr(t testing.TB, what string, got, want api.Errno) {
	t.Helper()
	if got != want {
		t.Fatalf("%s: error %d, not %d", what, got, want)
	}
}

func wantWin[T comparable](t testing.TB, got *tree.Tree[T], leaf int, x T) {
	t.Helper()
	if n, y, there := got.Win(); n != leaf || y != x || !there {
		t.Fatalf("Win() = %d, %v, %v, not %d, %v", n, y, there, leaf, x)
	}
}

func wantNoWin[T comparable](t testing.TB, got *tree.Tree[T]) {
	t.Helper()
	var zero T
	if n, y, there := got.Win(); n != -1 || y != zero || there {
		t.Fatalf("Win() = %d, %v, %v, though no leaf holds anything", n, y, there)
	}
}

func wantGet[T comparable](t testing.TB, got *tree.Tree[T], leaf int, x T) {
	t.Helper()
	if y, there := got.Get(leaf); y != x || !there {
		t.Fatalf("Get(%d) = %v, %v, not %v", leaf, y, there, x)
	}
}

func wantNoGet[T comparable](t testing.TB, got *tree.Tree[T], leaf int) {
	t.Helper()
	var zero T
	if y, there := got.Get(leaf); y != zero || there {
		t.Fatalf("Get(%d) = %v, %v, though it holds nothing", leaf, y, there)
	}
}

// P8.1: how many leaves there may be, and that an order there must be.
func TestNew(t *testing.T) {
	for _, leaves := range []int{1, 2, 3, 63, api.MaxFan} {
		got := newTree(t, leaves, cmp.Compare[int])
		if got.Leaves() != leaves || got.Len() != 0 {
			t.Fatal(leaves, got.Leaves(), got.Len())
		}
		wantNoWin(t, got)
		for leaf := range leaves {
			wantNoGet(t, got, leaf)
		}
		if got, e := tree.New[int](leaves, nil); got != nil || e != api.ErrArg {
			t.Fatal(leaves, got, e)
		}
	}
	for _, leaves := range []int{0, -1, api.MaxFan + 1, math.MinInt, math.MaxInt} {
		for _, order := range []func(a, b int) int{cmp.Compare[int], nil} {
			if got, e := tree.New(leaves, order); got != nil || e != api.ErrArg {
				t.Fatal(leaves, got, e)
			}
		}
	}
}

// P8.1: a leaf that there is not holds nothing, can't be set or cleared, and nothing is done in vain.
func TestNoLeaf(t *testing.T) {
	for _, leaves := range []int{1, 2, 5, 8, api.MaxFan} {
		got := newTree(t, leaves, cmp.Compare[int])
		wantErr(t, "Set", got.Set(leaves-1, 7), api.OK)
		for _, leaf := range []int{-1, leaves, leaves + 1, 2 * leaves, math.MinInt, math.MaxInt} {
			wantErr(t, "Set", got.Set(leaf, 1), api.ErrNone)
			wantErr(t, "Clear", got.Clear(leaf), api.ErrNone)
			wantNoGet(t, got, leaf)
			wantWin(t, got, leaves-1, 7)
			if got.Len() != 1 || got.Leaves() != leaves {
				t.Fatal(got.Len(), got.Leaves())
			}
		}
		wantGet(t, got, leaves-1, 7)
	}
}

// P8.1: leaves are set, set again, cleared, cleared again.
func TestSetClear(t *testing.T) {
	got := newTree(t, 5, byRank)
	wantErr(t, "Set", got.Set(4, card{3, "a"}), api.OK)
	wantWin(t, got, 4, card{3, "a"})
	wantErr(t, "Set", got.Set(1, card{2, "b"}), api.OK)
	wantWin(t, got, 1, card{2, "b"})
	wantErr(t, "Set", got.Set(0, card{5, "c"}), api.OK)
	wantWin(t, got, 1, card{2, "b"})
	wantErr(t, "Set", got.Set(1, card{4, "d"}), api.OK)
	wantWin(t, got, 4, card{3, "a"})
	wantGet(t, got, 1, card{4, "d"})
	if got.Len() != 3 {
		t.Fatal(got.Len())
	}
	for range 2 {
		wantErr(t, "Clear", got.Clear(4), api.OK)
		wantErr(t, "Clear", got.Clear(2), api.OK)
		wantNoGet(t, got, 4)
		wantNoGet(t, got, 2)
		wantWin(t, got, 1, card{4, "d"})
		if got.Len() != 2 {
			t.Fatal(got.Len())
		}
	}
	wantErr(t, "Clear", got.Clear(1), api.OK)
	wantWin(t, got, 0, card{5, "c"})
	wantErr(t, "Clear", got.Clear(0), api.OK)
	wantNoWin(t, got)
	if got.Len() != 0 || got.Leaves() != 5 {
		t.Fatal(got.Len(), got.Leaves())
	}
	wantErr(t, "Set", got.Set(3, card{}), api.OK)
	wantWin(t, got, 3, card{})
	wantGet(t, got, 3, card{})
	if got.Len() != 1 {
		t.Fatal("a zero value is a thing, too")
	}
}

// P8.1: of things that stand alike the least number wins, in whatever order they are set, and cleared.
func TestAlike(t *testing.T) {
	r := rand.New(rand.NewSource(1))
	for _, leaves := range []int{2, 3, 6, 8, 33, api.MaxFan} {
		got := newTree(t, leaves, byRank)
		order := r.Perm(leaves)
		for i, leaf := range order {
			wantErr(t, "Set", got.Set(leaf, card{1, strings.Repeat("x", leaf)}), api.OK)
			least := slices.Min(order[:i+1])
			wantWin(t, got, least, card{1, strings.Repeat("x", least)})
		}
		for leaf := range leaves {
			wantWin(t, got, leaf, card{1, strings.Repeat("x", leaf)})
			wantErr(t, "Clear", got.Clear(leaf), api.OK)
		}
		wantNoWin(t, got)
	}
}

// plainWin is the winner as the document says it: all things are gone through.
func plainWin[T any](things []*T, order func(a, b T) int) int {
	win := -1
	for i, x := range things {
		if x != nil && (win < 0 || order(*x, *things[win]) < 0) {
			win = i
		}
	}
	return win
}

// P8.1: many calls in any order, held against a plain list; no more is compared than Steps, and only what is held.
func TestMany(t *testing.T) {
	for _, leaves := range []int{1, 2, 3, 4, 5, 7, 8, 9, 16, 17, 31, 33, 63, api.MaxFan} {
		for seed := range int64(8) {
			many(t, leaves, rand.New(rand.NewSource(seed)))
		}
	}
}

func many(t *testing.T, leaves int, r *rand.Rand) {
	t.Helper()
	want := make([]*card, leaves)
	compared := 0
	got := newTree(t, leaves, func(a, b card) int {
		for _, x := range []card{a, b} {
			if !slices.ContainsFunc(want, func(y *card) bool { return y != nil && *y == x }) {
				t.Fatalf("%v is compared, though no leaf holds it", x)
			}
		}
		compared++
		return byRank(a, b)
	})
	for k := range 300 {
		leaf, x := r.Intn(leaves), card{r.Intn(6), strings.Repeat("x", k%17)}
		compared = 0
		if r.Intn(3) > 0 {
			want[leaf] = &x
			wantErr(t, "Set", got.Set(leaf, x), api.OK)
			if compared > tree.Steps(leaves) {
				t.Fatalf("of %d leaves %d were compared", leaves, compared)
			}
		} else {
			want[leaf] = nil
			wantErr(t, "Clear", got.Clear(leaf), api.OK)
		}
		compared = 0
		wantAll(t, got, want)
		if compared != 0 {
			t.Fatal("what asks for things compares them")
		}
	}
}

// wantAll is that all that a tree tells is as the plain list of things has it.
func wantAll(t testing.TB, got *tree.Tree[card], want []*card) {
	t.Helper()
	count := 0
	for leaf, x := range want {
		if x == nil {
			wantNoGet(t, got, leaf)
			continue
		}
		count++
		wantGet(t, got, leaf, *x)
	}
	if got.Len() != count || got.Leaves() != len(want) {
		t.Fatal(got.Len(), got.Leaves(), count)
	}
	if win := plainWin(want, byRank); win >= 0 {
		wantWin(t, got, win, *want[win])
	} else {
		wantNoWin(t, got)
	}
}

// P8.2: one Set of a full tree compares at most as often as Steps tells, of each number of leaves.
func TestSetCompares(t *testing.T) {
	for leaves := 1; leaves <= api.MaxFan; leaves++ {
		compared := 0
		got := newTree(t, leaves, func(a, b int) int { compared++; return cmp.Compare(a, b) })
		for round := range 4 {
			for leaf := range leaves {
				compared = 0
				wantErr(t, "Set", got.Set(leaf, (leaf*37+round*11)%19), api.OK)
				if compared > tree.Steps(leaves) {
					t.Fatalf("of %d leaves %d were compared", leaves, compared)
				}
				compared = 0
				if _, _, there := got.Win(); !there || compared != 0 {
					t.Fatal("Win compares", compared)
				}
			}
		}
	}
}

// P8.2: Steps of each number up to MaxFan, below 2, and beyond.
func TestSteps(t *testing.T) {
	for leaves := 2; leaves <= api.MaxFan; leaves++ {
		want := 1
		for 1<<want < leaves {
			want++
		}
		if n := tree.Steps(leaves); n != want {
			t.Errorf("Steps(%d) = %d, not %d", leaves, n, want)
		}
	}
	for _, x := range []struct{ leaves, want int }{
		{1, 0}, {0, 0}, {-1, 0}, {math.MinInt, 0}, {2, 1}, {3, 2}, {4, 2}, {5, 3}, {8, 3}, {9, 4}, {16, 4}, {17, 5}, {32, 5}, {33, 6},
		{api.MaxFan, 6}, {api.MaxFan + 1, 6}, {128, 6}, {129, 6}, {1 << 40, 6}, {math.MaxInt, 6},
	} {
		if n := tree.Steps(x.leaves); n != x.want {
			t.Errorf("Steps(%d) = %d, not %d", x.leaves, n, x.want)
		}
	}
}

// P8.1: of a Tree that no call made nothing is told or done.
func TestNil(t *testing.T) {
	for _, got := range []*tree.Tree[card]{nil, {}} {
		for _, leaf := range []int{0, -1, 1, api.MaxFan, math.MaxInt} {
			wantErr(t, "Set", got.Set(leaf, card{1, "a"}), api.ErrClosed)
			wantErr(t, "Clear", got.Clear(leaf), api.ErrClosed)
			wantNoGet(t, got, leaf)
		}
		wantNoWin(t, got)
		if got.Len() != 0 || got.Leaves() != 0 {
			t.Error(got.Len(), got.Leaves())
		}
	}
}

// checkType holds things of any type, that are handed over in order, in a tree and in lists that are merged.
func checkType[T any](t *testing.T, order func(a, b T) int, same func(a, b T) bool, things ...T) {
	t.Helper()
	var zero T
	got := newTree(t, len(things)+1, order)
	var l [][]T
	for i, x := range things {
		wantErr(t, "Set", got.Set(len(things)-1-i, x), api.OK)
		l = append(l, []T{x})
	}
	for i, want := range things {
		leaf, x, there := got.Win()
		y, held := got.Get(leaf)
		if leaf != len(things)-1-i || !same(x, want) || !there || !same(y, want) || !held {
			t.Fatal(leaf, x, there, y, held)
		}
		wantErr(t, "Clear", got.Clear(leaf), api.OK)
		if y, held := got.Get(leaf); !same(y, zero) || held {
			t.Fatal(y, held)
		}
	}
	if leaf, x, there := got.Win(); leaf != -1 || !same(x, zero) || there {
		t.Fatal(leaf, x, there)
	}
	slices.Reverse(l)
	if m, e := tree.Merge(l, order); e != api.OK || !slices.EqualFunc(m, things, same) {
		t.Fatal(m, e)
	}
}

func same[T comparable](a, b T) bool { return a == b }

func byText(a, b error) int {
	if a == nil || b == nil {
		return cmp.Compare(len(told(a)), len(told(b)))
	}
	return cmp.Compare(a.Error(), b.Error())
}

func told(e error) string {
	if e == nil {
		return ""
	}
	return e.Error()
}

// P8.1, P8.2: things are of any type, their zero value is one of them.
func TestTypes(t *testing.T) {
	checkType(t, cmp.Compare, same, -1, 0, 7)
	checkType(t, func(a, b int) int { return cmp.Compare(b, a) }, same, 7, 0, -1)
	checkType(t, cmp.Compare, same, "", "a", "aa", "b")
	checkType(t, byRank, same, card{-1, ""}, card{}, card{1, "a"})
	checkType(t, slices.Compare, slices.Equal, nil, []int{-1, 5}, []int{2}, []int{2, 0})
	checkType(t, byText, same, nil, errors.New("a"), errors.New("b"))
	checkType(t, func(a, b [1 << 17]byte) int { return cmp.Compare(a[9], b[9]) }, same, [1 << 17]byte{}, [1 << 17]byte{9: 1})
	checkType(t, func(a, b struct{}) int { return 0 }, same, struct{}{})
	checkType(t, func(a, b func() int) int { return a() - b() }, func(a, b func() int) bool { return (a == nil) == (b == nil) && (a == nil || a() == b()) }, func() int { return 1 }, func() int { return 2 })
}

// P8.1, P8.3: trees are apart, each has its own order.
func TestApart(t *testing.T) {
	up := newTree(t, 3, cmp.Compare[int])
	down := newTree(t, 3, func(a, b int) int { return cmp.Compare(b, a) })
	for leaf := range 3 {
		up.Set(leaf, leaf)
		down.Set(leaf, leaf)
	}
	wantWin(t, up, 0, 0)
	wantWin(t, down, 2, 2)
	up.Clear(0)
	wantWin(t, up, 1, 1)
	wantGet(t, down, 0, 0)
}

// R1: no call panics, though an order does; the things stand alike then, and are held.
func TestOrderPanics(t *testing.T) {
	bad := func(a, b card) int {
		if a.rank < 0 || b.rank < 0 {
			panic("no order")
		}
		return byRank(a, b)
	}
	got := newTree(t, 4, bad)
	wantErr(t, "Set", got.Set(1, card{-1, "a"}), api.OK)
	wantErr(t, "Set", got.Set(2, card{5, "b"}), api.OK)
	wantErr(t, "Set", got.Set(3, card{4, "c"}), api.OK)
	wantWin(t, got, 1, card{-1, "a"})
	wantErr(t, "Clear", got.Clear(1), api.OK)
	wantWin(t, got, 3, card{4, "c"})
	l, e := tree.Merge([][]card{{{3, "a"}, {-1, "b"}}, {{2, "c"}, {1, "d"}}}, bad)
	if e != api.OK || !slices.Equal(l, []card{{2, "c"}, {1, "d"}, {3, "a"}, {-1, "b"}}) {
		t.Fatal(l, e)
	}
}
