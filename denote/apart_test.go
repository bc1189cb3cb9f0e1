package denote_test

import (
	"reflect"
	"testing"

	"commissary/api"
	"commissary/denote"
	"commissary/value"
)

// each is a node of each kind, and some that tell rows of another one as they are.
func each() []api.Node {
	s := scan("t", num, num)
	on := op(api.OpEq, at(0), at(2))
	return []api.Node{
		s, filter(truth, s), project(s, at(0), at(0)), distinct(s), union(s, s), order(s, -1), limit(2, s), limit(9, order(s, 0)), order(union(s, s)),
		join(api.JoinInner, on, s, s), join(api.JoinLeft, on, s, s), join(api.JoinSemi, on, s, s), join(api.JoinAnti, none, s, s),
		group([]int{0}, s, rows), group([]int{0, 1}, s), group(nil, s, rows), union(limit(2, s), limit(2, s)), distinct(order(s, 0)), limit(1, limit(2, s)),
	}
}

func apartTables() []api.Table { return []api.Table{table("t", 2, "1 2, 1 2, _ 3, 1 2")} }

// R3: what is handed in is not changed.
func TestUnchanged(t *testing.T) {
	c, l := apartTables(), each()
	a, b := values("2 1, 1 2"), values("1 2, 2 1")
	for i, n := range l {
		if _, no := denote.Rows(n, c); no != api.OK || denote.Fits(n, c) != api.OK {
			t.Errorf("node %d: %d", i, no)
		}
		denote.Same(n, a, b)
		denote.Ordered(n)
	}
	if !reflect.DeepEqual(c, apartTables()) || !reflect.DeepEqual(l, each()) || text(a) != "2 1, 1 2" || text(b) != "1 2, 2 1" {
		t.Error("changed")
	}
}

// R3: no row that is told shares its memory with another, or with what was handed in.
func TestApart(t *testing.T) {
	for i, n := range each() {
		c := apartTables()
		first, _ := denote.Rows(n, c)
		again, no := denote.Rows(n, c)
		if no != api.OK || len(again) == 0 {
			t.Errorf("node %d: %d, %d rows", i, no, len(again))
		}
		for k, r := range again {
			for p := range r[:cap(r)] {
				r[:cap(r)][p] = value.Text("spoilt")
			}
			again[k] = first[k]
			if text(again) != text(first) {
				t.Fatalf("node %d: row %d shares memory", i, k)
			}
		}
		for k := range again[:cap(again)] {
			again[:cap(again)][k] = nil
		}
		if !reflect.DeepEqual(c, apartTables()) {
			t.Errorf("node %d: the table changed", i)
		}
		if third, no := denote.Rows(n, c); no != api.OK || text(third) != text(first) {
			t.Errorf("node %d: again %d, %s, not %s", i, no, text(third), text(first))
		}
	}
}
