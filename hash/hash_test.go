package hash_test

import (
	"math"
	"math/big"
	"slices"
	"strings"
	"testing"

	"commissary/api"
	"commissary/hash"
	"commissary/row"
	"commissary/value"
)

// reckoned is the number of b as the document says it, in numbers without end,
// from which the lowest 64 bits are taken behind each step.
func reckoned(seed *big.Int, b []byte) uint64 {
	ring := new(big.Int).Lsh(big.NewInt(1), 64)
	first, _ := new(big.Int).SetString("14695981039346656037", 10)
	n := new(big.Int).Add(seed, first)
	n.Mod(n, ring)
	for _, x := range b {
		n.Xor(n, big.NewInt(int64(x)))
		n.Mul(n, big.NewInt(1099511628211))
		n.Mod(n, ring)
	}
	n.Xor(n, new(big.Int).Rsh(n, 32))
	return n.Uint64()
}

// reckonedAt is the number of b by the seed of a level.
func reckonedAt(seed uint64, level int, b []byte) uint64 {
	step := new(big.Int).Mul(big.NewInt(int64(level)), big.NewInt(2654435769))
	return reckoned(step.Add(step, new(big.Int).SetUint64(seed)), b)
}

// seeds is seeds of all sizes: some of them pass 2^64 with the first number, or with a level's step.
func seeds() []uint64 {
	return []uint64{
		0, 1, 7, 1 << 32, 1 << 63, math.MaxInt64,
		math.MaxUint64 - 14695981039346656037, math.MaxUint64 - 14695981039346656037 + 1,
		math.MaxUint64 - 8*2654435769, math.MaxUint64 - 8*2654435769 + 1, math.MaxUint64 - 1, math.MaxUint64,
	}
}

// rows is rows that may be, of all kinds.
func rows() [][]api.Value {
	l := [][]api.Value{
		nil, {value.Null()}, {value.Bool(false)}, {value.Bool(true)}, {value.Text("")}, {value.Text("it's"), value.Null()},
		{value.Int(-api.MaxInt)}, {value.Int(api.MaxInt)}, {value.Text(strings.Repeat("\xff", api.MaxText)), value.Int(1)},
		make([]api.Value, api.MaxCols),
	}
	for i := range 100 {
		l = append(l, []api.Value{value.Int(i % 10), value.Int(i), value.Text(strings.Repeat("x", i%3))})
	}
	return l
}

// refused is rows that may not be.
func refused() [][]api.Value {
	return [][]api.Value{
		{value.Int(api.MaxInt + 1)}, {value.Int(1), value.Int(-api.MaxInt - 1)}, {{Kind: api.KindBool, N: 2}}, {{Kind: 4}}, {{N: 1}},
		{value.Text(strings.Repeat("x", api.MaxText+1))}, make([]api.Value, api.MaxCols+1),
	}
}

// levels and fans that may not be.
func wrong() [][2]int {
	return [][2]int{
		{-1, 1}, {api.MaxLevel + 1, 1}, {0, 0}, {0, api.MaxFan + 1}, {0, -1}, {-1, 0}, {api.MaxLevel + 1, api.MaxFan + 1},
		{math.MinInt, 1}, {math.MaxInt, 1}, {0, math.MinInt}, {0, math.MaxInt},
	}
}

func copied(l [][]api.Value) [][]api.Value {
	c := make([][]api.Value, len(l))
	for i, r := range l {
		c[i] = slices.Clone(r)
	}
	return c
}

func sameRows(a, b [][]api.Value) bool {
	return slices.EqualFunc(a, b, slices.Equal[[]api.Value])
}

// P3.1: numbers that are known from elsewhere (the bytes' FNV-1a), folded.
func TestBytesKnown(t *testing.T) {
	for _, x := range []struct {
		s string
		n uint64
	}{
		{"", 0xcbf29ce484222325}, {"a", 0xaf63dc4c8601ec8c}, {"b", 0xaf63df4c8601f1a5}, {"foobar", 0x85944171f73967e8},
	} {
		if n := hash.Bytes(0, []byte(x.s)); n != x.n^x.n>>32 {
			t.Errorf("Bytes(0, %q) = %x", x.s, n)
		}
	}
	if hash.Bytes(5, nil) != hash.Bytes(5, []byte{}) {
		t.Error("nil is not the empty list")
	}
}

// P3.1: numbers by all seeds, of no bytes, of each byte, of many.
func TestBytes(t *testing.T) {
	l := [][]byte{nil, {0, 0}, []byte(strings.Repeat("\xff", 1000)), []byte("the seed and the bytes")}
	for b := range 256 {
		l = append(l, []byte{byte(b)})
	}
	for _, seed := range seeds() {
		for _, b := range l {
			kept := slices.Clone(b)
			if n := hash.Bytes(seed, b); n != reckonedAt(seed, 0, b) {
				t.Errorf("Bytes(%d, %v) = %d", seed, b, n)
			}
			if !slices.Equal(b, kept) {
				t.Error("the bytes are changed", b)
			}
		}
	}
}

// P3.1: a row's number is that of its bytes.
func TestRow(t *testing.T) {
	for _, seed := range seeds() {
		for _, r := range rows() {
			b, _ := row.Put(r)
			if n, e := hash.Row(seed, r); e != api.OK || n != reckonedAt(seed, 0, b) {
				t.Errorf("Row(%d, %v) = %d, %d", seed, r, n, e)
			}
		}
		for _, r := range refused() {
			if n, e := hash.Row(seed, r); e != api.ErrRow || n != 0 {
				t.Errorf("Row(%d, %v) = %d, %d", seed, r, n, e)
			}
		}
	}
}

// P3.1: parts at all levels, of the fewest and the most.
func TestPart(t *testing.T) {
	for _, seed := range seeds() {
		for level := range api.MaxLevel + 1 {
			for _, fan := range []int{1, 2, 3, 7, 63, api.MaxFan} {
				for _, r := range rows() {
					b, _ := row.Put(r)
					want := int(reckonedAt(seed, level, b) % uint64(fan))
					if i, e := hash.Part(seed, level, fan, r); e != api.OK || i != want {
						t.Fatalf("Part(%d, %d, %d, %v) = %d, %d", seed, level, fan, r, i, e)
					}
				}
			}
		}
	}
}

// P3.1: levels and fans that may not be are refused ahead of rows.
func TestPartRefuses(t *testing.T) {
	for _, x := range wrong() {
		for _, r := range append(refused(), rows()...) {
			if i, e := hash.Part(1, x[0], x[1], r); e != api.ErrArg || i != 0 {
				t.Errorf("Part(1, %d, %d, %v) = %d, %d", x[0], x[1], r, i, e)
			}
		}
	}
	for _, r := range refused() {
		if i, e := hash.Part(1, api.MaxLevel, api.MaxFan, r); e != api.ErrRow || i != 0 {
			t.Errorf("Part of %v = %d, %d", r, i, e)
		}
	}
}

// wide is rows of three columns or more, whose first has ten values.
func wide() [][]api.Value {
	var l [][]api.Value
	for i := range 300 {
		l = append(l, []api.Value{value.Int(i * 7 % 10), value.Int(i % 20), value.Text(strings.Repeat("y", i%5))})
	}
	return append(l, append(l[3:6:6], l[3:6]...)...)
}

// P3.1, P3.2: of each part its rows, as they stand; none is lost, and the same values at cols are in one part.
func TestSplit(t *testing.T) {
	for _, seed := range seeds() {
		for _, level := range []int{0, 1, api.MaxLevel} {
			for _, fan := range []int{1, 2, 5, api.MaxFan} {
				for _, cols := range [][]int{nil, {0}, {2, 0}, {1, 1, 0, 2}} {
					l := wide()
					checkSplit(t, seed, level, fan, l, cols)
					if !sameRows(l, wide()) {
						t.Fatal("the rows are changed")
					}
				}
			}
		}
	}
}

func checkSplit(t *testing.T, seed uint64, level, fan int, l [][]api.Value, cols []int) {
	t.Helper()
	want := make([][][]api.Value, fan)
	for _, r := range l {
		key, _ := row.Pick(r, cols)
		i, _ := hash.Part(seed, level, fan, key)
		want[i] = append(want[i], r)
	}
	parts, e := hash.Split(seed, level, fan, l, cols)
	if e != api.OK || !slices.EqualFunc(parts, want, sameRows) {
		t.Fatalf("Split(%d, %d, %d, .., %v) = %v, %d", seed, level, fan, cols, parts, e)
	}
	home, all := map[string]int{}, 0
	for i, part := range parts {
		all += len(part)
		for _, r := range part {
			key, _ := row.Pick(r, cols)
			b, _ := row.Put(key)
			if k, there := home[string(b)]; there && k != i {
				t.Fatalf("%v is in parts %d and %d", key, i, k)
			}
			home[string(b)] = i
		}
	}
	if all != len(l) {
		t.Fatalf("%d rows of %d", all, len(l))
	}
}

// Example 1: of one part all rows are part 0's.
func TestSplitOne(t *testing.T) {
	l := wide()
	parts, e := hash.Split(3, 2, 1, l, []int{0})
	if e != api.OK || len(parts) != 1 || !sameRows(parts[0], l) {
		t.Error(parts, e)
	}
}

// P3.1: without rows, all parts are empty, whatever the places.
func TestSplitNone(t *testing.T) {
	for _, fan := range []int{1, api.MaxFan} {
		for _, cols := range [][]int{nil, {0}, {-1}, make([]int, api.MaxCols+1)} {
			parts, e := hash.Split(3, api.MaxLevel, fan, nil, cols)
			if e != api.OK || len(parts) != fan {
				t.Fatal(parts, e)
			}
			for _, part := range parts {
				if len(part) != 0 {
					t.Error(part)
				}
			}
		}
	}
}

// P3.1: the level and fan, then places and values at them, of the first row that is refused.
func TestSplitRefuses(t *testing.T) {
	good, short := []api.Value{value.Int(1), value.Int(2)}, []api.Value{value.Int(1)}
	odd := []api.Value{value.Int(1), {Kind: 9}}
	for _, x := range wrong() {
		for _, l := range [][][]api.Value{nil, {good}, {odd}, {short}} {
			if parts, e := hash.Split(1, x[0], x[1], l, []int{1}); e != api.ErrArg || len(parts) != 0 {
				t.Errorf("Split(1, %d, %d, ..) = %v, %d", x[0], x[1], parts, e)
			}
		}
	}
	many := make([]int, api.MaxCols+1)
	for _, x := range []struct {
		l    [][]api.Value
		cols []int
		e    api.Errno
	}{
		{[][]api.Value{good, short}, []int{1}, api.ErrArg},
		{[][]api.Value{good}, []int{-1}, api.ErrArg},
		{[][]api.Value{good}, []int{math.MaxInt}, api.ErrArg},
		{[][]api.Value{good}, many, api.ErrArg},
		{[][]api.Value{good, odd}, []int{1}, api.ErrRow},
		{[][]api.Value{odd}, []int{1, 2}, api.ErrArg},
		{[][]api.Value{good, odd, short}, []int{1}, api.ErrRow},
		{[][]api.Value{good, short, odd}, []int{1}, api.ErrArg},
	} {
		if parts, e := hash.Split(1, 0, 4, x.l, x.cols); e != x.e || len(parts) != 0 {
			t.Errorf("Split of %v at %v = %v, %d", x.l, x.cols, parts, e)
		}
	}
}

// P3.1: of a row just the values at cols are looked at.
func TestSplitElsewhere(t *testing.T) {
	l := [][]api.Value{{value.Int(1), {Kind: 9}}, make([]api.Value, api.MaxCols+5)}
	checkSplit(t, 1, 0, 4, l, []int{0})
	checkSplit(t, 1, 0, 4, l, make([]int, api.MaxCols))
}

// R3: what is answered is new memory, its spare room too.
func TestSplitShare(t *testing.T) {
	one := []api.Value{value.Int(1), value.Int(2), value.Int(3)}
	l := [][]api.Value{one[:2], one[:2], one[1:]}
	cols := []int{0}
	parts, _ := hash.Split(1, 0, 1, l, cols)
	want := copied(l)
	for i := range parts[0] {
		r := append(parts[0][i], value.Text("behind"))
		for k := range r {
			r[k] = value.Text("changed")
		}
		for k := i + 1; k < len(want); k++ {
			if !slices.Equal(parts[0][k], want[k]) {
				t.Error("rows share memory", i, k)
			}
		}
	}
	parts[0][0] = nil
	if !sameRows(l, want) || one[2] != value.Int(3) || cols[0] != 0 {
		t.Error("the answer shares memory", l, one, cols)
	}
}

// R4: the same is answered again.
func TestAgain(t *testing.T) {
	a, _ := hash.Split(8, 3, 16, wide(), []int{1})
	b, _ := hash.Split(8, 3, 16, wide(), []int{1})
	if !slices.EqualFunc(a, b, sameRows) {
		t.Error("answered otherwise")
	}
}
