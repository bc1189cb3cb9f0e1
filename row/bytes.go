package row

import (
	"commissary/api"
	"commissary/value"
)

const (
	intBytes = 7
	// intBase lifts each int above 0, so that its bytes have no sign.
	intBase = api.MaxInt + 1
)

// Size is how many bytes r has.
func Size(r []api.Value) int {
	if Check(r) != api.OK {
		return 0
	}
	size := 1
	for _, v := range r {
		size += valueSize(v.Kind, len(v.S))
	}
	return size
}

// valueSize is how many bytes a value of a kind has, with its kind's; of no kind 0.
func valueSize(kind, textLen int) int {
	switch kind {
	case api.KindNull:
		return 1
	case api.KindBool:
		return 2
	case api.KindInt:
		return 1 + intBytes
	case api.KindText:
		return 2 + textLen
	}
	return 0
}

// Put is the bytes of r.
func Put(r []api.Value) ([]byte, api.Errno) {
	if e := Check(r); e != api.OK {
		return nil, e
	}
	b := make([]byte, 0, Size(r))
	b = append(b, byte(len(r)))
	for _, v := range r {
		b = putValue(b, v)
	}
	return b, api.OK
}

func putValue(b []byte, v api.Value) []byte {
	b = append(b, byte(v.Kind))
	switch v.Kind {
	case api.KindBool:
		b = append(b, byte(v.N))
	case api.KindInt:
		n := v.N + intBase
		for i := intBytes - 1; i >= 0; i-- {
			b = append(b, byte(n>>(8*i)))
		}
	case api.KindText:
		b = append(b, byte(len(v.S)))
		b = append(b, v.S...)
	}
	return b
}

// Get is the row whose bytes b begins with, and how many they are.
func Get(b []byte) ([]api.Value, int, api.Errno) {
	if len(b) == 0 || int(b[0]) > api.MaxCols {
		return nil, 0, api.ErrRow
	}
	count, size := int(b[0]), 1
	r := make([]api.Value, 0, count)
	for range count {
		v, n, ok := getValue(b[size:])
		if !ok {
			return nil, 0, api.ErrRow
		}
		r = append(r, v)
		size += n
	}
	return r, size, api.OK
}

// getValue is the value whose bytes b begins with, and how many they are. Bytes
// of a value that may not be are none: so each row has just one way to be written.
func getValue(b []byte) (api.Value, int, bool) {
	n, ok := cutValue(b)
	if !ok {
		return api.Value{}, 0, false
	}
	v := readValue(b[:n])
	if value.Check(v) != api.OK {
		return api.Value{}, 0, false
	}
	return v, n, true
}

// cutValue is how many bytes of b are those of its first value, if all of them are there.
func cutValue(b []byte) (int, bool) {
	if len(b) == 0 {
		return 0, false
	}
	kind, textLen := int(b[0]), 0
	if kind == api.KindText {
		if len(b) < 2 {
			return 0, false
		}
		textLen = int(b[1])
	}
	n := valueSize(kind, textLen)
	return n, n > 0 && n <= len(b)
}

// readValue is the value of b, which is as long as its kind asks.
func readValue(b []byte) api.Value {
	switch int(b[0]) {
	case api.KindBool:
		return api.Value{Kind: api.KindBool, N: int(b[1])}
	case api.KindInt:
		n := 0
		for _, x := range b[1:] {
			n = n<<8 | int(x)
		}
		return value.Int(n - intBase)
	case api.KindText:
		return value.Text(string(b[2:]))
	}
	return value.Null()
}
