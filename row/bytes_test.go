package row_test

import (
	"bytes"
	"slices"
	"strings"
	"testing"

	"commissary/api"
	"commissary/row"
	"commissary/value"
)

// written is rows, and their bytes.
func written() []struct {
	r []api.Value
	b []byte
} {
	long := strings.Repeat("x", api.MaxText)
	return []struct {
		r []api.Value
		b []byte
	}{
		{nil, []byte{0}},
		{[]api.Value{value.Int(5), value.Null()}, []byte{2, 2, 0x20, 0, 0, 0, 0, 0, 5, 0}},
		{[]api.Value{value.Null()}, []byte{1, 0}},
		{[]api.Value{value.Bool(false), value.Bool(true)}, []byte{2, 1, 0, 1, 1}},
		{[]api.Value{value.Int(0)}, []byte{1, 2, 0x20, 0, 0, 0, 0, 0, 0}},
		{[]api.Value{value.Int(-1)}, []byte{1, 2, 0x1f, 0xff, 0xff, 0xff, 0xff, 0xff, 0xff}},
		{[]api.Value{value.Int(0x010203040506)}, []byte{1, 2, 0x20, 1, 2, 3, 4, 5, 6}},
		{[]api.Value{value.Int(api.MaxInt)}, []byte{1, 2, 0x3f, 0xff, 0xff, 0xff, 0xff, 0xff, 0xff}},
		{[]api.Value{value.Int(-api.MaxInt)}, []byte{1, 2, 0, 0, 0, 0, 0, 0, 1}},
		{[]api.Value{value.Text("")}, []byte{1, 3, 0}},
		{[]api.Value{value.Text("a\x00'\xff")}, []byte{1, 3, 4, 'a', 0, '\'', 0xff}},
		{[]api.Value{value.Text(long)}, append([]byte{1, 3, 64}, long...)},
		{make([]api.Value, api.MaxCols), append([]byte{32}, make([]byte, 32)...)},
	}
}

// P2.1: a row's bytes, and how many they are.
func TestPutSize(t *testing.T) {
	for _, x := range written() {
		b, e := row.Put(x.r)
		if e != api.OK || !bytes.Equal(b, x.b) {
			t.Errorf("Put(%v) = %v, %d", x.r, b, e)
		}
		if n := row.Size(x.r); n != len(x.b) {
			t.Errorf("Size(%v) = %d", x.r, n)
		}
	}
	for _, r := range refused() {
		if b, e := row.Put(r); e != api.ErrRow || len(b) != 0 {
			t.Errorf("Put(%v) = %v, %d", r, b, e)
		}
		if n := row.Size(r); n != 0 {
			t.Errorf("Size(%v) = %d", r, n)
		}
	}
	full := make([]api.Value, api.MaxCols)
	for i := range full {
		full[i] = value.Text(strings.Repeat("x", api.MaxText))
	}
	if b, e := row.Put(full); e != api.OK || len(b) != 1+32*66 || row.Size(full) != len(b) {
		t.Error(len(b), e)
	}
}

// P2.1: bytes as rows; those that are cut short are none.
func TestGet(t *testing.T) {
	for _, x := range written() {
		r, n, e := row.Get(x.b)
		if e != api.OK || n != len(x.b) || !same(r, x.r) {
			t.Errorf("Get(%v) = %v, %d, %d", x.b, r, n, e)
		}
		for i := range x.b {
			r, n, e := row.Get(x.b[:i:i])
			if e != api.ErrRow || n != 0 || len(r) != 0 {
				t.Errorf("Get(%v) = %v, %d, %d", x.b[:i], r, n, e)
			}
		}
	}
	if r, n, e := row.Get(nil); e != api.ErrRow || n != 0 || len(r) != 0 {
		t.Error(r, n, e)
	}
}

// P2.1: bytes that begin with no row, however many follow.
func TestGetRefuses(t *testing.T) {
	for _, b := range unwritten() {
		b = append(b, make([]byte, 300)...)
		if r, n, e := row.Get(b); e != api.ErrRow || n != 0 || len(r) != 0 {
			t.Errorf("Get(%v) = %v, %d, %d", b[:12], r, n, e)
		}
	}
}

func unwritten() [][]byte {
	l := [][]byte{
		{1, 2, 0, 0, 0, 0, 0, 0, 0},
		{1, 2, 0x40, 0, 0, 0, 0, 0, 0},
		{1, 2, 0x40, 0, 0, 0, 0, 0, 1},
		{1, 2, 0x80, 0, 0, 0, 0, 0, 1},
		{1, 2, 0xff, 0xff, 0xff, 0xff, 0xff, 0xff, 0xff},
		{2, 0, 4},
		{3, 1, 1, 3, 1, 'x', 1, 2},
	}
	for n := 33; n < 256; n++ {
		l = append(l, []byte{byte(n)})
	}
	for n := 4; n < 256; n++ {
		l = append(l, []byte{1, byte(n)})
	}
	for n := 2; n < 256; n++ {
		l = append(l, []byte{1, 1, byte(n)})
	}
	for n := 65; n < 256; n++ {
		l = append(l, []byte{1, 3, byte(n)})
	}
	return l
}

// P2.1, R3: what was got shares nothing with the bytes, and what was put nothing with the row.
func TestBytesShare(t *testing.T) {
	b := []byte{2, 3, 1, 'a', 3, 1, 'b', 9}
	r, n, _ := row.Get(b[:7])
	if n != 7 || b[7] != 9 {
		t.Fatal(n, b)
	}
	b[3], b[6] = 'x', 'y'
	if !same(r, []api.Value{value.Text("a"), value.Text("b")}) {
		t.Error("memory is shared", r)
	}
	c, _ := row.Put(r)
	d, _ := row.Put(r)
	c[3] = 'z'
	if r[0].S != "a" || d[3] != 'a' {
		t.Error("memory is shared", r, d)
	}
}

// some is rows that may be, of all kinds, made by a short rule.
func some() [][]api.Value {
	values := []api.Value{
		value.Null(), value.Bool(false), value.Bool(true), value.Int(-api.MaxInt), value.Int(-256), value.Int(0), value.Int(1 << 40), value.Int(api.MaxInt),
		value.Text(""), value.Text("\x00"), value.Text("it's"), value.Text(strings.Repeat("\xff", api.MaxText)),
	}
	l := [][]api.Value{nil}
	for _, a := range values {
		l = append(l, []api.Value{a})
		for _, b := range values {
			l = append(l, []api.Value{a, b})
		}
	}
	for n := range api.MaxCols + 1 {
		var r []api.Value
		for i := range n {
			r = append(r, values[(n+i*5)%len(values)])
		}
		l = append(l, r)
	}
	return l
}

// P2.3: what was put is got, whatever follows.
func TestPutGet(t *testing.T) {
	for _, r := range some() {
		b, e := row.Put(r)
		if e != api.OK || len(b) != row.Size(r) {
			t.Fatal(r, b, e)
		}
		for _, tail := range [][]byte{nil, {0}, {3, 255}, b, bytes.Repeat([]byte{255}, 300)} {
			whole := slices.Concat(b, tail)
			got, n, e := row.Get(whole)
			if e != api.OK || n != len(b) || !same(got, r) {
				t.Errorf("Get of %v = %v, %d, %d", r, got, n, e)
			}
			if !bytes.Equal(whole, slices.Concat(b, tail)) {
				t.Error("the bytes are changed")
			}
		}
	}
}

// P2.3: rows that are the same have the same bytes, and others have others.
func TestSameBytes(t *testing.T) {
	l := some()
	for _, a := range l {
		x, _ := row.Put(a)
		for _, b := range l {
			y, _ := row.Put(slices.Clone(b))
			if row.Same(a, b) != bytes.Equal(x, y) {
				t.Errorf("%v, %v: %v, %v", a, b, x, y)
			}
		}
	}
}

// P2.1, P2.3, R1: of any bytes: they begin with no row, or with just the bytes of the row that is told.
func TestGetAny(t *testing.T) {
	alphabet := []byte{0, 1, 2, 3, 4, 32, 33, 64, 65, 255}
	b := make([]byte, 5)
	for i := range 100000 {
		for k, rest := 0, i; k < len(b); k, rest = k+1, rest/10 {
			b[k] = alphabet[rest%10]
		}
		checkGet(t, b)
	}
}

func FuzzGet(f *testing.F) {
	for _, x := range written() {
		f.Add(x.b)
	}
	for _, b := range unwritten() {
		f.Add(b)
	}
	f.Fuzz(checkGet)
}

func checkGet(t *testing.T, b []byte) {
	kept := bytes.Clone(b)
	r, n, e := row.Get(b)
	if !bytes.Equal(kept, b) {
		t.Fatal("the bytes are changed", kept, b)
	}
	if e == api.ErrRow {
		if len(r) != 0 || n != 0 {
			t.Fatal(b, r, n)
		}
		return
	}
	if e != api.OK || row.Check(r) != api.OK || row.Size(r) != n || n > len(b) {
		t.Fatal(b, r, n, e)
	}
	if again, e := row.Put(r); e != api.OK || !bytes.Equal(again, b[:n]) {
		t.Fatal(b, r, again, e)
	}
}
