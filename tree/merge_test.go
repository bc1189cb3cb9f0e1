package tree_test

import (
	"cmp"
	"math/rand"
	"slices"
	"strconv"
	"testing"

	"commissary/api"
	"commissary/tree"
)

func wantMerge[T comparable](t testing.TB, l [][]T, order func(a, b T) int, want []T) {
	t.Helper()
	if m, e := tree.Merge(l, order); e != api.OK || !slices.Equal(m, want) {
		t.Fatalf("Merge(%v) = %v, %d, not %v", l, m, e, want)
	}
}

// plainMerge is what the document says: again and again the first one of that list whose first one wins.
func plainMerge[T any](l [][]T, order func(a, b T) int) []T {
	var merged []T
	rest := slices.Clone(l)
	for {
		firsts := make([]*T, len(rest))
		for i, list := range rest {
			if len(list) > 0 {
				firsts[i] = &list[0]
			}
		}
		win := plainWin(firsts, order)
		if win < 0 {
			return merged
		}
		merged = append(merged, rest[win][0])
		rest[win] = rest[win][1:]
	}
}

// P8.2: lists, written out.
func TestMerge(t *testing.T) {
	for _, x := range []struct {
		l    [][]int
		want []int
	}{
		{[][]int{{1, 3}, {2, 3}}, []int{1, 2, 3, 3}},
		{[][]int{{1, 2, 3}}, []int{1, 2, 3}},
		{[][]int{{4, 5}, {1, 6}, {2}}, []int{1, 2, 4, 5, 6}},
		// empty ones
		{[][]int{nil}, nil}, {[][]int{{}}, nil}, {[][]int{nil, {}, nil}, nil},
		{[][]int{nil, {2}, {}, {1}, nil}, []int{1, 2}},
		// lists that are not in order
		{[][]int{{3, 1, 2}}, []int{3, 1, 2}},
		{[][]int{{3, 1, 5, 0}, {2, 4, 9}}, []int{2, 3, 1, 4, 5, 0, 9}},
		{[][]int{{5, 5, 1}, {4, 6}, {5, 0}}, []int{4, 5, 5, 1, 5, 0, 6}},
	} {
		wantMerge(t, x.l, cmp.Compare, x.want)
	}
}

// P8.2: from one list to MaxFan of them there may be, and an order there must be.
func TestMergeRefuses(t *testing.T) {
	refuse := func(l [][]int, order func(a, b int) int) {
		t.Helper()
		if m, e := tree.Merge(l, order); len(m) != 0 || e != api.ErrArg {
			t.Errorf("Merge of %d lists = %v, %d", len(l), m, e)
		}
	}
	for _, order := range []func(a, b int) int{cmp.Compare[int], nil} {
		refuse(nil, order)
		refuse([][]int{}, order)
		refuse(make([][]int, api.MaxFan+1), order)
		refuse(append(make([][]int, api.MaxFan), []int{1}), order)
		refuse(make([][]int, 1000), order)
	}
	for _, lists := range []int{1, 2, api.MaxFan} {
		l := make([][]int, lists)
		refuse(l, nil)
		wantMerge(t, l, cmp.Compare, nil)
		l[lists-1] = []int{1, 2}
		refuse(l, nil)
		wantMerge(t, l, cmp.Compare, []int{1, 2})
	}
}

// someLists is lists of cards, many of which stand alike, but none of which are the same.
func someLists(r *rand.Rand, lists int, sorted bool) [][]card {
	l := make([][]card, lists)
	for i := range l {
		for k := range r.Intn(12) {
			l[i] = append(l[i], card{r.Intn(7), strconv.Itoa(100*i + k)})
		}
		if sorted {
			slices.SortStableFunc(l[i], byRank)
		}
	}
	return l
}

func copied[T any](l [][]T) [][]T {
	var c [][]T
	for _, list := range l {
		c = append(c, slices.Clone(list))
	}
	return c
}

// P8.2, P8.3: lists in order and others, held against the plain way; of lists in order
// the answer is what a stable sort of all their things is.
func TestMergeMany(t *testing.T) {
	for lists := 1; lists <= api.MaxFan; lists++ {
		for seed := range int64(6) {
			sorted := seed%2 == 0
			l := someLists(rand.New(rand.NewSource(seed)), lists, sorted)
			kept := copied(l)
			wantMerge(t, l, byRank, plainMerge(l, byRank))
			if !slices.EqualFunc(l, kept, slices.Equal) {
				t.Fatal("the lists are changed")
			}
			if all := slices.Concat(l...); sorted {
				slices.SortStableFunc(all, byRank)
				wantMerge(t, l, byRank, all)
			}
		}
	}
}

// P8.3: things that stand alike keep their lists' order.
func TestMergeAlike(t *testing.T) {
	l := [][]card{{{1, "a"}, {1, "b"}, {2, "c"}}, nil, {{0, "d"}, {1, "e"}, {2, "f"}}, {{1, "g"}, {2, "h"}}}
	wantMerge(t, l, byRank, []card{{0, "d"}, {1, "a"}, {1, "b"}, {1, "e"}, {1, "g"}, {2, "c"}, {2, "f"}, {2, "h"}})
	alike := make([][]card, api.MaxFan)
	var all []card
	for i := range alike {
		alike[i] = []card{{5, strconv.Itoa(i)}, {5, "then " + strconv.Itoa(i)}}
		all = append(all, alike[i]...)
	}
	wantMerge(t, alike, byRank, all)
}

// R3: what is answered is new memory, and nothing that is handed in is changed, or the room behind it.
func TestMergeShare(t *testing.T) {
	whole := []int{1, 4, 77, 2, 3, 88}
	l := [][]int{whole[:2], whole[3:5], nil}
	m, e := tree.Merge(l[:2], cmp.Compare)
	if e != api.OK || !slices.Equal(whole, []int{1, 4, 77, 2, 3, 88}) || l[2] != nil {
		t.Fatal(e, whole, l)
	}
	one, _ := tree.Merge(l[:1], cmp.Compare)
	clear(whole)
	clear(l)
	if !slices.Equal(m, []int{1, 2, 3, 4}) || !slices.Equal(one, []int{1, 4}) {
		t.Fatal("an answer hangs on what the caller changes", m, one)
	}
	clear(m[:cap(m)])
	if !slices.Equal(one, []int{1, 4}) {
		t.Fatal("two answers share memory", one)
	}
}

// R1, R3: what is merged is the lists as they were handed in, though the order takes them away.
func TestMergeOrderChanges(t *testing.T) {
	l := [][]int{{1, 2, 3}, {2, 3, 4}, {0, 9}}
	m, e := tree.Merge(l, func(a, b int) int {
		clear(l)
		return cmp.Compare(a, b)
	})
	if e != api.OK || !slices.Equal(m, []int{0, 1, 2, 2, 3, 3, 4, 9}) {
		t.Fatal(m, e)
	}
}
