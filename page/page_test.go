package page_test

import (
	"bytes"
	"math"
	"slices"
	"strings"
	"testing"

	"commissary/api"
	"commissary/page"
	"commissary/row"
	"commissary/value"
)

// sized is a row of just so many bytes, 1 to MaxWidth and somewhat more, that begins with a text of the letter c.
func sized(t testing.TB, n int, c byte) []api.Value {
	var r []api.Value
	rest := n - 1
	for rest > 66 {
		r = append(r, value.Text(strings.Repeat(string(c), 63)))
		rest -= 65
	}
	if rest == 1 {
		r = append(r, value.Null())
	} else if rest > 1 {
		r = append(r, value.Text(strings.Repeat(string(c), rest-2)))
	}
	if row.Size(r) != n {
		t.Fatalf("a row of %d bytes, not of %d", row.Size(r), n)
	}
	return r
}

// laid is the page of rows as the document says it; only for rows that fit.
func laid(t testing.TB, l [][]api.Value) []byte {
	p, end := make([]byte, 256), 1
	p[0] = byte(len(l))
	for i, r := range l {
		b, e := row.Put(r)
		if e != api.OK || end+len(b) > 256-2*len(l) {
			t.Fatal("the rows do not fit", e)
		}
		p[256-2*i-2], p[256-2*i-1] = byte(end/256), byte(end%256)
		end += copy(p[end:], b)
	}
	return p
}

// some is lists of rows that fit into one page, ordinary and full ones.
func some(t testing.TB) [][][]api.Value {
	ordinary := [][]api.Value{{value.Int(5), value.Null()}, {value.Text("it's"), value.Bool(true)}, nil, {value.Int(-api.MaxInt)}, nil}
	return [][][]api.Value{
		nil, {nil}, {{value.Null()}}, {ordinary[0]}, ordinary,
		{make([]api.Value, api.MaxCols)},
		{sized(t, api.MaxWidth, 'x')},
		{sized(t, 100, 'x'), sized(t, 151, 'y')},
		{sized(t, 100, 'x'), sized(t, 150, 'y')},
		{sized(t, 100, 'x'), sized(t, 149, 'y')},
		{sized(t, 100, 'x'), sized(t, 148, 'y')},
		{sized(t, 100, 'x'), sized(t, 147, 'y'), nil},
		make([][]api.Value, 84), make([][]api.Value, 85),
	}
}

// refused is rows that may not be.
func refused() [][]api.Value {
	return [][]api.Value{
		{value.Int(api.MaxInt + 1)}, {value.Null(), {Kind: 4}}, {{Kind: api.KindBool, N: 2}},
		{value.Text(strings.Repeat("x", api.MaxText+1))}, make([]api.Value, api.MaxCols+1),
	}
}

func sameRows(a, b [][]api.Value) bool {
	return slices.EqualFunc(a, b, slices.Equal[[]api.Value])
}

// changed is a copy of p with other bytes behind one another from a place on.
func changed(p []byte, at int, b ...byte) []byte {
	c := slices.Clone(p)
	copy(c[at:], b)
	return c
}

// unlaid is bytes that are no page.
func unlaid(t testing.TB) [][]byte {
	none, one, two := page.New(), laid(t, [][]api.Value{{value.Int(5), value.Null()}}), laid(t, [][]api.Value{{value.Bool(true)}, nil})
	full := laid(t, make([][]api.Value, 85))
	l := [][]byte{
		nil, {}, {0}, none[:255], one[:255], slices.Concat(none, none), append(page.New(), 0), append(slices.Clone(one), 0), full[:128],
		// bytes between the rows and their places that are not 0
		changed(none, 1, 1), changed(none, 255, 1), changed(none, 128, 255), changed(one, 11, 1), changed(one, 253, 1), changed(two, 251, 1),
		// places that are wrong
		changed(one, 255, 0), changed(one, 255, 2), changed(one, 254, 1), changed(one, 254, 1, 0), changed(two, 252, 0, 1, 0, 4), changed(two, 253, 5), changed(two, 252, 1),
		// more rows than there are, or less
		changed(none, 0, 1), changed(none, 0, 127), changed(none, 0, 128), changed(none, 0, 255), changed(one, 0, 0), changed(one, 0, 2), changed(two, 0, 1), changed(two, 0, 3),
		changed(full, 0, 84), changed(full, 0, 86),
		// rows that are none, or reach into the places
		changed(one, 1, 33), changed(one, 2, 4), changed(one, 3, 0x40), changed(one, 1, 255), changed(two, 3, 2), changed(two, 4, 1, 3, 65), changed(two, 4, 1, 4),
	}
	// a row that ends within the places, though these tell where it begins
	for _, last := range []byte{53, 54, 55} {
		deep := page.New()
		deep[0], deep[255] = 1, 1
		copy(deep[1:], []byte{4, 3, 64})
		copy(deep[68:], []byte{3, 64})
		copy(deep[134:], []byte{3, 64})
		copy(deep[200:], []byte{3, last})
		l = append(l, deep)
	}
	return l
}

// Example 1: New is 256 bytes of 0.
func TestNew(t *testing.T) {
	p := page.New()
	if !bytes.Equal(p, make([]byte, 256)) || page.Check(p) != api.OK || page.Count(p) != 0 || page.Room(p) != api.MaxWidth {
		t.Error(p)
	}
	p[0] = 9
	if page.New()[0] != 0 {
		t.Error("memory is shared")
	}
	if l, e := page.Rows(page.New()); e != api.OK || len(l) != 0 {
		t.Error(l, e)
	}
}

// P4.1: a page's bytes, written out.
func TestAddBytes(t *testing.T) {
	p, e := page.Add(page.New(), []api.Value{value.Int(5), value.Null()})
	if e != api.OK {
		t.Fatal(e)
	}
	p, e = page.Add(p, []api.Value{value.Text("ab")})
	if e != api.OK {
		t.Fatal(e)
	}
	want := make([]byte, 256)
	copy(want, []byte{2, 2, 2, 0x20, 0, 0, 0, 0, 0, 5, 0, 1, 3, 2, 'a', 'b'})
	copy(want[252:], []byte{0, 11, 0, 1})
	if !bytes.Equal(p, want) {
		t.Error(p)
	}
}

// P4.1: rows are added one behind the other, and all is told of the page.
func TestAdd(t *testing.T) {
	for _, l := range some(t) {
		p := page.New()
		for i, r := range l {
			if room := page.Room(p); room < row.Size(r) {
				t.Fatal(i, room)
			}
			kept, r2 := slices.Clone(p), slices.Clone(r)
			q, e := page.Add(p, r)
			if e != api.OK || !bytes.Equal(q, laid(t, l[:i+1])) {
				t.Fatalf("Add(.., %v) = %v, %d", r, q, e)
			}
			if !bytes.Equal(p, kept) || !slices.Equal(r, r2) {
				t.Fatal("the page or the row is changed", p, r)
			}
			p = q
		}
		checkRead(t, p, l)
	}
}

// checkRead holds what is told of p against its rows.
func checkRead(t *testing.T, p []byte, l [][]api.Value) {
	t.Helper()
	if e := page.Check(p); e != api.OK || page.Count(p) != len(l) {
		t.Fatal(e, page.Count(p))
	}
	if rows, e := page.Rows(p); e != api.OK || !sameRows(rows, l) {
		t.Fatal(rows, e)
	}
	used := 1
	for i, r := range l {
		used += row.Size(r) + 2
		if got, e := page.Get(p, i); e != api.OK || !slices.Equal(got, r) {
			t.Fatalf("Get(.., %d) = %v, %d", i, got, e)
		}
	}
	for _, i := range []int{-1, len(l), len(l) + 1, 255, 256, math.MinInt, math.MaxInt} {
		if got, e := page.Get(p, i); e != api.ErrNone || len(got) != 0 {
			t.Fatalf("Get(.., %d) = %v, %d", i, got, e)
		}
	}
	if room := page.Room(p); room != max(0, 256-used-2) {
		t.Fatal(room, used)
	}
}

// P4.1: a row of just as many bytes as there is room is added, one with one more is not.
func TestRoom(t *testing.T) {
	for first := 1; first <= api.MaxWidth; first++ {
		p, e := page.Add(page.New(), sized(t, first, 'x'))
		if e != api.OK {
			t.Fatal(first, e)
		}
		room := page.Room(p)
		if room != max(0, 251-first) {
			t.Fatal(first, room)
		}
		if q, e := page.Add(p, sized(t, room+1, 'y')); e != api.ErrFull || len(q) != 0 {
			t.Fatal(first, q, e)
		}
		if room == 0 {
			continue
		}
		q, e := page.Add(p, sized(t, room, 'y'))
		if e != api.OK || page.Room(q) != 0 || page.Count(q) != 2 {
			t.Fatal(first, q, e)
		}
		if q, e := page.Add(q, nil); e != api.ErrFull || len(q) != 0 {
			t.Fatal(first, q, e)
		}
	}
}

// P4.1: a page of as many rows as there may be, without a byte that is free.
func TestFull(t *testing.T) {
	p := laid(t, make([][]api.Value, 85))
	if page.Check(p) != api.OK || page.Count(p) != 85 || page.Room(p) != 0 {
		t.Error(page.Check(p), page.Count(p), page.Room(p))
	}
	if q, e := page.Add(p, nil); e != api.ErrFull || len(q) != 0 {
		t.Error(q, e)
	}
}

// P4.1: a row of just MaxWidth bytes fits into a page, one of one more into none.
func TestWidth(t *testing.T) {
	if p, e := page.Add(page.New(), sized(t, api.MaxWidth, 'x')); e != api.OK || page.Room(p) != 0 {
		t.Error(p, e)
	}
	for _, p := range some(t) {
		for _, r := range [][]api.Value{sized(t, api.MaxWidth+1, 'x'), sized(t, 1000, 'x')} {
			if q, e := page.Add(laid(t, p), r); e != api.ErrLong || len(q) != 0 {
				t.Error(q, e)
			}
		}
	}
}

// P4.1: the page, then the row, then its width, then the room.
func TestAddRefuses(t *testing.T) {
	full := laid(t, make([][]api.Value, 85))
	long := slices.Repeat([]api.Value{value.Text(strings.Repeat("x", 64))}, api.MaxCols)
	for i, p := range unlaid(t) {
		for k, r := range append(refused(), nil, long) {
			if q, e := page.Add(p, r); e != api.ErrPage || len(q) != 0 {
				t.Errorf("Add of row %d to %d = %v, %d", k, i, q, e)
			}
		}
	}
	odd := append(slices.Clone(long[1:]), api.Value{Kind: 4})
	for _, r := range append(refused(), odd) {
		for _, p := range [][]byte{page.New(), full} {
			if q, e := page.Add(p, r); e != api.ErrRow || len(q) != 0 {
				t.Errorf("Add(.., %v) = %v, %d", r, q, e)
			}
		}
	}
	if q, e := page.Add(full, long); e != api.ErrLong || len(q) != 0 {
		t.Error(q, e)
	}
}

// P4.1: of what is no page nothing is told.
func TestNoPage(t *testing.T) {
	for i, p := range unlaid(t) {
		kept := slices.Clone(p)
		if e := page.Check(p); e != api.ErrPage {
			t.Errorf("Check of %d: %v = %d", i, p, e)
		}
		if page.Count(p) != 0 || page.Room(p) != 0 {
			t.Error(i, page.Count(p), page.Room(p))
		}
		for _, k := range []int{-1, 0, 1000} {
			if r, e := page.Get(p, k); e != api.ErrPage || len(r) != 0 {
				t.Error(i, r, e)
			}
		}
		if l, e := page.Rows(p); e != api.ErrPage || len(l) != 0 {
			t.Error(i, l, e)
		}
		if !bytes.Equal(p, kept) {
			t.Error("the bytes are changed", i)
		}
	}
}

// P4.1: a page whose list's room goes on behind its end, and one that is cut at each length.
func TestCut(t *testing.T) {
	for _, l := range some(t) {
		p := laid(t, l)
		long := append(slices.Clone(p), 7, 7, 7)
		if e := page.Check(long[:256]); e != api.OK {
			t.Error(e)
		}
		if _, e := page.Add(long[:256], nil); e == api.ErrPage || !bytes.Equal(long[256:], []byte{7, 7, 7}) {
			t.Error(e, long[256:])
		}
		for n := range len(p) {
			if page.Check(p[:n]) != api.ErrPage || page.Check(long[:256+n%3+1]) != api.ErrPage {
				t.Fatal(n)
			}
		}
	}
}

// P4.3: a page with one other bit is none, or has other rows.
func TestOneWay(t *testing.T) {
	for _, l := range some(t) {
		p := laid(t, l)
		for at := range p {
			for bit := range 8 {
				q := changed(p, at, p[at]^1<<bit)
				checkPage(t, q)
				if rows, e := page.Rows(q); e == api.OK && sameRows(rows, l) {
					t.Fatalf("byte %d may be %d", at, q[at])
				}
			}
		}
	}
}

// checkPage holds any bytes against P4.1 and P4.3: they are no page, or just that of their rows.
func checkPage(t *testing.T, p []byte) {
	t.Helper()
	kept := slices.Clone(p)
	l, e := page.Rows(p)
	if e != page.Check(p) || len(l) != page.Count(p) || !bytes.Equal(kept, p) {
		t.Fatal(p, l, e)
	}
	if e == api.ErrPage {
		return
	}
	if e != api.OK || !bytes.Equal(p, laid(t, l)) {
		t.Fatal(p, l, e)
	}
	checkRead(t, p, l)
	filled, e := page.Fill(l)
	if e != api.OK || len(l) > 0 && (len(filled) != 1 || !bytes.Equal(filled[0], p)) {
		t.Fatal(p, filled, e)
	}
}

func FuzzCheck(f *testing.F) {
	for _, l := range some(f) {
		f.Add(laid(f, l))
	}
	for _, p := range unlaid(f) {
		f.Add(p)
	}
	f.Fuzz(checkPage)
}

// many is so many rows of all sizes, by a short rule.
func many(t testing.TB, n int) [][]api.Value {
	var l [][]api.Value
	for i := range n {
		l = append(l, sized(t, 1+i*i*37%api.MaxWidth, byte('a'+i%26)))
	}
	return l
}

// P4.2, P4.3: rows are filled into pages, each as full as can be, and read again.
func TestFill(t *testing.T) {
	lists := append(some(t), many(t, 1), many(t, 300), make([][]api.Value, 86), make([][]api.Value, 170), make([][]api.Value, 171),
		[][]api.Value{sized(t, 100, 'x'), sized(t, 150, 'y'), nil},
		[][]api.Value{nil, sized(t, api.MaxWidth, 'x'), sized(t, api.MaxWidth, 'y'), nil, nil})
	for _, l := range lists {
		pages, e := page.Fill(l)
		if e != api.OK {
			t.Fatal(e)
		}
		checkFull(t, pages, l)
		if rows, e := page.Pages(pages); e != api.OK || !sameRows(rows, l) {
			t.Fatal(rows, e)
		}
	}
	if pages, _ := page.Fill(make([][]api.Value, 171)); len(pages) != 3 || page.Count(pages[0]) != 85 || page.Count(pages[2]) != 1 {
		t.Error(pages)
	}
}

// checkFull holds pages against rows: each page has rows, and all that fit.
func checkFull(t *testing.T, pages [][]byte, l [][]api.Value) {
	t.Helper()
	for _, p := range pages {
		n := page.Count(p)
		if n == 0 || n > len(l) || !bytes.Equal(p, laid(t, l[:n])) {
			t.Fatal(p, n)
		}
		l = l[n:]
		if len(l) > 0 && row.Size(l[0]) <= page.Room(p) {
			t.Fatal("the page is not as full as can be", p)
		}
	}
	if len(l) != 0 {
		t.Fatal(len(l), "rows are lost")
	}
}

// P4.2: without rows there are no pages, and without pages no rows.
func TestFillNone(t *testing.T) {
	for _, l := range [][][]api.Value{nil, {}} {
		if pages, e := page.Fill(l); e != api.OK || len(pages) != 0 {
			t.Error(pages, e)
		}
	}
	for _, l := range [][][]byte{nil, {}, {page.New()}, {page.New(), page.New()}} {
		if rows, e := page.Pages(l); e != api.OK || len(rows) != 0 {
			t.Error(rows, e)
		}
	}
}

// P4.2: what is refused of the first row that is refused.
func TestFillRefuses(t *testing.T) {
	good, long, odd := []api.Value{value.Int(1)}, sized(t, api.MaxWidth+1, 'x'), []api.Value{{Kind: 4}}
	both := append(slices.Clone(long), odd...)
	for _, x := range []struct {
		l [][]api.Value
		e api.Errno
	}{
		{[][]api.Value{odd}, api.ErrRow},
		{[][]api.Value{long}, api.ErrLong},
		{[][]api.Value{both}, api.ErrRow},
		{[][]api.Value{good, long, odd}, api.ErrLong},
		{[][]api.Value{good, odd, long}, api.ErrRow},
		{append(many(t, 200), long), api.ErrLong},
		{append(many(t, 200), make([]api.Value, api.MaxCols+1)), api.ErrRow},
	} {
		if pages, e := page.Fill(x.l); e != x.e || len(pages) != 0 {
			t.Errorf("Fill: %d pages, %d, not %d", len(pages), e, x.e)
		}
	}
}

// P4.2: the rows of all pages, full or not; a page that is none is refused wherever it stands.
func TestPages(t *testing.T) {
	var pages [][]byte
	var all [][]api.Value
	for _, l := range some(t) {
		pages, all = append(pages, laid(t, l)), append(all, l...)
	}
	if rows, e := page.Pages(pages); e != api.OK || !sameRows(rows, all) {
		t.Fatal(rows, e)
	}
	for _, p := range unlaid(t) {
		for i := range len(pages) + 1 {
			if rows, e := page.Pages(slices.Insert(slices.Clone(pages), i, p)); e != api.ErrPage || len(rows) != 0 {
				t.Fatal(i, len(rows), e)
			}
		}
	}
}

// R3: what is answered shares nothing with what was handed in, nor one list with another.
func TestShare(t *testing.T) {
	l := [][]api.Value{{value.Text("aa")}, {value.Text("bb")}}
	p := laid(t, l)
	one, _ := page.Get(p, 0)
	rows, _ := page.Rows(p)
	all, _ := page.Pages([][]byte{p, p})
	again, _ := page.Add(p, nil)
	clear(p)
	if !slices.Equal(one, l[0]) || !sameRows(rows, l) || !sameRows(all, slices.Concat(l, l)) || page.Count(again) != 3 {
		t.Error("the answer shares memory with the page", one, rows, all)
	}
	all[0][0] = value.Null()
	_ = append(all[1], value.Null())
	if !sameRows(all[2:], l) {
		t.Error("rows share memory", all)
	}
	pages, _ := page.Fill([][]api.Value{sized(t, 200, 'x'), sized(t, 200, 'y')})
	clear(append(pages[0], 1, 2, 3))
	clear(pages[0])
	if !bytes.Equal(pages[1], laid(t, [][]api.Value{sized(t, 200, 'y')})) {
		t.Error("pages share memory", pages)
	}
}
