package disk_test

import (
	"bytes"
	"math"
	"math/rand"
	"slices"
	"testing"

	"commissary/api"
	"commissary/disk"
)

// filled is a page of one byte over and over.
func filled(b byte) []byte {
	return bytes.Repeat([]byte{b}, api.PageSize)
}

func newDisk(t testing.TB, room int, faults ...int) *disk.Disk {
	t.Helper()
	d, e := disk.New(room, faults)
	if e != api.OK || d == nil {
		t.Fatalf("New(%d, %v) = %v, %d", room, faults, d, e)
	}
	return d
}

func create(t testing.TB, d *disk.Disk) int {
	t.Helper()
	n, e := d.Create()
	if e != api.OK {
		t.Fatal("Create", n, e)
	}
	return n
}

func wantErr(t testing.TB, what string, got, want api.Errno) {
	t.Helper()
	if got != want {
		t.Fatalf("%s: error %d, not %d", what, got, want)
	}
}

func wantMeter(t testing.TB, d *disk.Disk, deeds int, m api.Meter) {
	t.Helper()
	if got := d.Meter(); got != m {
		t.Fatalf("Meter() = %+v, not %+v", got, m)
	}
	if got := d.Deeds(); got != deeds {
		t.Fatalf("Deeds() = %d, not %d", got, deeds)
	}
}

func wantPage(t testing.TB, d *disk.Disk, file, i int, want []byte) {
	t.Helper()
	if p, e := d.Read(file, i); e != api.OK || !bytes.Equal(p, want) {
		t.Fatalf("Read(%d, %d) = %v, %d, not %v", file, i, p, e, want)
	}
}

func wantNoPage(t testing.TB, d *disk.Disk, file, i int, want api.Errno) {
	t.Helper()
	if p, e := d.Read(file, i); e != want || len(p) != 0 {
		t.Fatalf("Read(%d, %d) = %v, %d, not error %d", file, i, p, e, want)
	}
}

func wantSize(t testing.TB, d *disk.Disk, file, want int, e api.Errno) {
	t.Helper()
	if n, got := d.Size(file); n != want || got != e {
		t.Fatalf("Size(%d) = %d, %d, not %d, %d", file, n, got, want, e)
	}
}

func wantFiles(t testing.TB, d *disk.Disk, want ...int) {
	t.Helper()
	if l := d.Files(); !slices.Equal(l, want) {
		t.Fatalf("Files() = %v, not %v", l, want)
	}
}

// P5.1: how many pages there may be, whatever the faults.
func TestNew(t *testing.T) {
	for _, faults := range [][]int{nil, {}, {1}, {-1, 0, 5, 5, 2}} {
		for _, room := range []int{0, 1, api.MaxDisk - 1, api.MaxDisk} {
			d, e := disk.New(room, faults)
			if e != api.OK || d == nil {
				t.Fatal(room, faults, e)
			}
			wantFiles(t, d)
			wantMeter(t, d, 0, api.Meter{})
		}
		for _, room := range []int{-1, api.MaxDisk + 1, math.MinInt, math.MaxInt} {
			if d, e := disk.New(room, faults); e != api.ErrArg || d != nil {
				t.Fatal(room, faults, d, e)
			}
		}
	}
}

// P5.1, P5.2: files by numbers from 1 on, each one more than the last that was made, be that one deleted or not.
func TestCreate(t *testing.T) {
	d := newDisk(t, 0)
	for want := 1; want <= 3; want++ {
		if n := create(t, d); n != want {
			t.Fatal(n, want)
		}
		wantSize(t, d, want, 0, api.OK)
	}
	wantFiles(t, d, 1, 2, 3)
	wantErr(t, "Delete", d.Delete(3), api.OK)
	wantErr(t, "Delete", d.Delete(1), api.OK)
	wantFiles(t, d, 2)
	if n := create(t, d); n != 4 {
		t.Fatal(n)
	}
	wantFiles(t, d, 2, 4)
	wantMeter(t, d, 0, api.Meter{})
}

// P5.1: MaxTemps files at a time; one that is refused takes no number.
func TestCreateFull(t *testing.T) {
	d := newDisk(t, 1)
	var all []int
	for n := 1; n <= api.MaxTemps; n++ {
		if got := create(t, d); got != n {
			t.Fatal(got, n)
		}
		all = append(all, n)
	}
	for range 3 {
		if n, e := d.Create(); n != 0 || e != api.ErrFull {
			t.Fatal(n, e)
		}
	}
	wantFiles(t, d, all...)
	wantErr(t, "Append", d.Append(api.MaxTemps, filled(1)), api.OK)
	wantErr(t, "Delete", d.Delete(7), api.OK)
	if n := create(t, d); n != api.MaxTemps+1 {
		t.Fatal(n)
	}
	if n, e := d.Create(); n != 0 || e != api.ErrFull {
		t.Fatal(n, e)
	}
	wantPage(t, d, api.MaxTemps, 0, filled(1))
}

// P5.1, P5.2, P5.3: pages are read as they were appended, in order, as often as one likes.
func TestAppendRead(t *testing.T) {
	d := newDisk(t, 10)
	f := create(t, d)
	mixed := make([]byte, api.PageSize)
	for i := range mixed {
		mixed[i] = byte(i)
	}
	pages := [][]byte{filled(0), mixed, filled(255), mixed, filled(7)}
	for i, p := range pages {
		wantErr(t, "Append", d.Append(f, p), api.OK)
		wantSize(t, d, f, i+1, api.OK)
		wantMeter(t, d, i+1, api.Meter{Writes: i + 1, Used: i + 1, Peak: i + 1})
	}
	for _, i := range []int{4, 0, 0, 3, 1, 2} {
		wantPage(t, d, f, i, pages[i])
	}
	wantMeter(t, d, 11, api.Meter{Reads: 6, Writes: 5, Used: 5, Peak: 5})
	wantSize(t, d, f, 5, api.OK)
}

// P5.1: a page has just 256 bytes; what is refused has no number.
func TestAppendLength(t *testing.T) {
	d := newDisk(t, 2)
	f := create(t, d)
	for _, n := range []int{0, 1, 255, 257, 512} {
		wantErr(t, "Append", d.Append(f, make([]byte, n)), api.ErrArg)
	}
	wantErr(t, "Append", d.Append(f, nil), api.ErrArg)
	wantErr(t, "Append", d.Append(f, make([]byte, 255, 256)), api.ErrArg)
	wantSize(t, d, f, 0, api.OK)
	wantMeter(t, d, 0, api.Meter{})
	long := append(filled(3), 9, 9)
	wantErr(t, "Append", d.Append(f, long[:256]), api.OK)
	wantPage(t, d, f, 0, filled(3))
	if !bytes.Equal(long, append(filled(3), 9, 9)) {
		t.Error("what was handed in is changed")
	}
}

// strangers is numbers of files that were never made while file 1 and 2 were.
func strangers() []int {
	return []int{0, -1, 3, 4, 1000, math.MinInt, math.MaxInt}
}

// P5.1, P5.2: of a file that was never made, or was deleted, nothing is done.
func TestNoFile(t *testing.T) {
	d := newDisk(t, 5)
	f, gone := create(t, d), create(t, d)
	for _, n := range []int{f, gone} {
		wantErr(t, "Append", d.Append(n, filled(byte(n))), api.OK)
	}
	wantErr(t, "Delete", d.Delete(gone), api.OK)
	m := api.Meter{Writes: 2, Used: 1, Peak: 2}
	for _, n := range append(strangers(), gone) {
		wantErr(t, "Append", d.Append(n, filled(1)), api.ErrNone)
		wantNoPage(t, d, n, 0, api.ErrNone)
		wantErr(t, "Delete", d.Delete(n), api.ErrNone)
		wantSize(t, d, n, 0, api.ErrNone)
		wantFiles(t, d, f)
		wantMeter(t, d, 2, m)
	}
	if n := create(t, d); n != 3 {
		t.Fatal(n)
	}
	wantPage(t, d, f, 0, filled(1))
}

// P5.1: of a page that is not there nothing is read, and it has no number.
func TestNoPage(t *testing.T) {
	d := newDisk(t, 5, 3)
	f, empty := create(t, d), create(t, d)
	for i := range 2 {
		wantErr(t, "Append", d.Append(f, filled(byte(i))), api.OK)
	}
	for _, i := range []int{-1, 2, 3, 256, math.MinInt, math.MaxInt} {
		wantNoPage(t, d, f, i, api.ErrNone)
	}
	for _, i := range []int{-1, 0, 1} {
		wantNoPage(t, d, empty, i, api.ErrNone)
	}
	wantMeter(t, d, 2, api.Meter{Writes: 2, Used: 2, Peak: 2})
	wantNoPage(t, d, f, 0, api.ErrFault)
	wantMeter(t, d, 3, api.Meter{Writes: 2, Used: 2, Peak: 2})
	wantPage(t, d, f, 0, filled(0))
}

// P5.1: a disk without room.
func TestNoRoom(t *testing.T) {
	d := newDisk(t, 0, 1)
	f := create(t, d)
	wantErr(t, "Append", d.Append(f, filled(1)), api.ErrFull)
	wantSize(t, d, f, 0, api.OK)
	wantMeter(t, d, 0, api.Meter{})
}

// P5.1, P5.2: a disk that is full, over all its files, and has room again behind a Delete.
func TestFull(t *testing.T) {
	d := newDisk(t, 3)
	a, b := create(t, d), create(t, d)
	for _, f := range []int{a, b, a} {
		wantErr(t, "Append", d.Append(f, filled(byte(f))), api.OK)
	}
	for _, f := range []int{a, b} {
		wantErr(t, "Append", d.Append(f, filled(9)), api.ErrFull)
	}
	wantMeter(t, d, 3, api.Meter{Writes: 3, Used: 3, Peak: 3})
	wantSize(t, d, a, 2, api.OK)
	wantErr(t, "Delete", d.Delete(a), api.OK)
	wantMeter(t, d, 3, api.Meter{Writes: 3, Used: 1, Peak: 3})
	wantErr(t, "Append", d.Append(b, filled(7)), api.OK)
	wantMeter(t, d, 4, api.Meter{Writes: 4, Used: 2, Peak: 3})
	wantErr(t, "Append", d.Append(b, filled(8)), api.OK)
	wantErr(t, "Append", d.Append(b, filled(9)), api.ErrFull)
	wantMeter(t, d, 5, api.Meter{Writes: 5, Used: 3, Peak: 3})
	for i, want := range []byte{byte(b), 7, 8} {
		wantPage(t, d, b, i, filled(want))
	}
	wantErr(t, "Delete", d.Delete(b), api.OK)
	wantFiles(t, d)
	wantMeter(t, d, 8, api.Meter{Reads: 3, Writes: 5, Peak: 3})
}

// P5.1: as many pages as a disk may have at all.
func TestMaxDisk(t *testing.T) {
	d := newDisk(t, api.MaxDisk)
	f := create(t, d)
	p := make([]byte, api.PageSize)
	for i := range api.MaxDisk {
		p[0], p[1] = byte(i>>8), byte(i)
		wantErr(t, "Append", d.Append(f, p), api.OK)
	}
	wantErr(t, "Append", d.Append(f, p), api.ErrFull)
	wantMeter(t, d, api.MaxDisk, api.Meter{Writes: api.MaxDisk, Used: api.MaxDisk, Peak: api.MaxDisk})
	for i := range api.MaxDisk {
		p[0], p[1] = byte(i>>8), byte(i)
		wantPage(t, d, f, i, p)
	}
}

// Example 1: the second of two Appends is refused, a third one is done.
func TestFaultAppend(t *testing.T) {
	d := newDisk(t, 2, 2)
	f := create(t, d)
	wantErr(t, "Append", d.Append(f, filled(1)), api.OK)
	wantErr(t, "Append", d.Append(f, filled(2)), api.ErrFault)
	wantSize(t, d, f, 1, api.OK)
	wantMeter(t, d, 2, api.Meter{Writes: 1, Used: 1, Peak: 1})
	wantErr(t, "Append", d.Append(f, filled(3)), api.OK)
	wantMeter(t, d, 3, api.Meter{Writes: 2, Used: 2, Peak: 2})
	wantPage(t, d, f, 0, filled(1))
	wantPage(t, d, f, 1, filled(3))
}

// P5.1: faults count Appends and Reads together, whichever file they are of; a fault is just one deed.
func TestFaultRead(t *testing.T) {
	d := newDisk(t, 9, 3, 4, 6)
	a, b := create(t, d), create(t, d)
	wantErr(t, "Append", d.Append(a, filled(1)), api.OK)
	wantErr(t, "Append", d.Append(b, filled(2)), api.OK)
	wantNoPage(t, d, a, 0, api.ErrFault)
	wantErr(t, "Append", d.Append(a, filled(3)), api.ErrFault)
	wantPage(t, d, a, 0, filled(1))
	wantNoPage(t, d, b, 0, api.ErrFault)
	wantPage(t, d, b, 0, filled(2))
	wantMeter(t, d, 7, api.Meter{Reads: 2, Writes: 2, Used: 2, Peak: 2})
}

// P5.1: faults that are named twice, below 1, or out of order, or never come to.
func TestFaultLists(t *testing.T) {
	for _, x := range []struct{ faults, want []int }{
		{nil, nil}, {[]int{0, -1, -5, math.MinInt}, nil}, {[]int{9, math.MaxInt}, nil},
		{[]int{2, 2, 2}, []int{2}}, {[]int{5, 1, 3}, []int{1, 3, 5}}, {[]int{8, 0, 8, 1, -8, 1}, []int{1, 8}},
		{[]int{1, 2, 3, 4, 5, 6, 7, 8}, []int{1, 2, 3, 4, 5, 6, 7, 8}},
	} {
		kept := slices.Clone(x.faults)
		d := newDisk(t, 100, x.faults...)
		f := create(t, d)
		for n := 1; n <= 8; n++ {
			want := api.OK
			if slices.Contains(x.want, n) {
				want = api.ErrFault
			}
			wantErr(t, "Append", d.Append(f, filled(1)), want)
		}
		done := 8 - len(x.want)
		wantMeter(t, d, 8, api.Meter{Writes: done, Used: done, Peak: done})
		if !slices.Equal(kept, x.faults) {
			t.Error("the faults are changed", x.faults)
		}
	}
}

// R3: the faults that were handed in are not kept.
func TestFaultsNotKept(t *testing.T) {
	faults := []int{1, 2, 99}
	d, _ := disk.New(5, faults[:2])
	f := create(t, d)
	faults[0], faults[1], faults[2] = 3, 4, 3
	for n, want := range []api.Errno{api.ErrFault, api.ErrFault, api.OK, api.OK} {
		if e := d.Append(f, filled(1)); e != want {
			t.Error(n+1, e)
		}
	}
}

// P5.1: of several refusals the first: the page's length, the file, the room, the fault.
func TestAppendFirst(t *testing.T) {
	d := newDisk(t, 0, 1)
	f := create(t, d)
	wantErr(t, "length, file, room, fault", d.Append(99, filled(1)[:255]), api.ErrArg)
	wantErr(t, "length, room, fault", d.Append(f, append(filled(1), 1)), api.ErrArg)
	wantErr(t, "file, room, fault", d.Append(99, filled(1)), api.ErrNone)
	wantErr(t, "room, fault", d.Append(f, filled(1)), api.ErrFull)
	wantMeter(t, d, 0, api.Meter{})
}

// P5.1: what is refused by something else has no number, so that the fault waits; Create, Delete, Size have none ever.
func TestNumbers(t *testing.T) {
	d := newDisk(t, 1, 1, 3)
	f, other := create(t, d), create(t, d)
	wantErr(t, "Append", d.Append(f, nil), api.ErrArg)
	wantErr(t, "Append", d.Append(9, filled(1)), api.ErrNone)
	wantNoPage(t, d, f, 0, api.ErrNone)
	wantErr(t, "Delete", d.Delete(other), api.OK)
	wantSize(t, d, f, 0, api.OK)
	wantMeter(t, d, 0, api.Meter{})
	wantErr(t, "Append 1", d.Append(f, filled(1)), api.ErrFault)
	wantErr(t, "Append 2", d.Append(f, filled(1)), api.OK)
	wantErr(t, "Append", d.Append(f, filled(1)), api.ErrFull)
	wantNoPage(t, d, f, 1, api.ErrNone)
	wantNoPage(t, d, f, 0, api.ErrFault)
	wantMeter(t, d, 3, api.Meter{Writes: 1, Used: 1, Peak: 1})
	wantPage(t, d, f, 0, filled(1))
}

// P5.3, R3: a page that the caller changes behind Append, or behind Read, is not the disk's.
func TestApart(t *testing.T) {
	d := newDisk(t, 4)
	a, b := create(t, d), create(t, d)
	p := filled(1)
	for _, f := range []int{a, b, a, b} {
		wantErr(t, "Append", d.Append(f, p), api.OK)
		p[0]++
	}
	clear(p)
	want := [][]byte{filled(1), filled(1), filled(1), filled(1)}
	for i := range want {
		want[i][0] += byte(i)
	}
	for range 2 {
		for i, w := range want {
			got, e := d.Read([]int{a, b}[i%2], i/2)
			if e != api.OK || !bytes.Equal(got, w) {
				t.Fatal(i, got, e)
			}
			got = append(got, 1, 2, 3)
			clear(got[:cap(got)])
		}
	}
	x, _ := d.Read(a, 0)
	y, _ := d.Read(a, 0)
	clear(x)
	if !bytes.Equal(y, want[0]) {
		t.Error("two answers share memory")
	}
	l := d.Files()
	l[0] = 77
	wantFiles(t, d, a, b)
}

// P5.3: files are apart, and so are disks.
func TestDisksApart(t *testing.T) {
	c, d := newDisk(t, 4, 1), newDisk(t, 4)
	f, g := create(t, c), create(t, d)
	wantErr(t, "Append", d.Append(g, filled(1)), api.OK)
	wantErr(t, "Append", c.Append(f, filled(2)), api.ErrFault)
	wantErr(t, "Append", c.Append(f, filled(3)), api.OK)
	wantErr(t, "Delete", c.Delete(f), api.OK)
	wantPage(t, d, g, 0, filled(1))
	wantMeter(t, c, 2, api.Meter{Writes: 1, Peak: 1})
	wantMeter(t, d, 2, api.Meter{Reads: 1, Writes: 1, Used: 1, Peak: 1})
}

// P5.2: of a Disk that no call made nothing is told or done.
func TestNil(t *testing.T) {
	for _, d := range []*disk.Disk{nil, {}} {
		if n, e := d.Create(); n != 0 || e != api.ErrClosed {
			t.Error(n, e)
		}
		for _, p := range [][]byte{nil, filled(1)} {
			wantErr(t, "Append", d.Append(1, p), api.ErrClosed)
		}
		wantNoPage(t, d, 1, 0, api.ErrClosed)
		wantNoPage(t, d, -1, -1, api.ErrClosed)
		wantErr(t, "Delete", d.Delete(1), api.ErrClosed)
		wantSize(t, d, 1, 0, api.ErrClosed)
		wantFiles(t, d)
		wantMeter(t, d, 0, api.Meter{})
	}
}

// plain is a disk as the document says it, without a map.
type plain struct {
	room, last, deeds int
	faults            []int
	files             []plainFile
	meter             api.Meter
}

type plainFile struct {
	number int
	pages  [][]byte
}

func (d *plain) find(file int) int {
	return slices.IndexFunc(d.files, func(f plainFile) bool { return f.number == file })
}

func (d *plain) faulty() bool {
	d.deeds++
	return slices.Contains(d.faults, d.deeds)
}

func (d *plain) append(file int, p []byte) api.Errno {
	i := d.find(file)
	switch {
	case len(p) != 256:
		return api.ErrArg
	case i < 0:
		return api.ErrNone
	case d.meter.Used == d.room:
		return api.ErrFull
	case d.faulty():
		return api.ErrFault
	}
	d.files[i].pages = append(d.files[i].pages, slices.Clone(p))
	d.meter.Writes++
	d.meter.Used++
	d.meter.Peak = max(d.meter.Peak, d.meter.Used)
	return api.OK
}

func (d *plain) read(file, k int) ([]byte, api.Errno) {
	i := d.find(file)
	if i < 0 || k < 0 || k >= len(d.files[i].pages) {
		return nil, api.ErrNone
	}
	if d.faulty() {
		return nil, api.ErrFault
	}
	d.meter.Reads++
	return d.files[i].pages[k], api.OK
}

func (d *plain) delete(file int) api.Errno {
	i := d.find(file)
	if i < 0 {
		return api.ErrNone
	}
	d.meter.Used -= len(d.files[i].pages)
	d.files = slices.Delete(d.files, i, i+1)
	return api.OK
}

// P5.1, P5.2, P5.3: many calls in any order, held against the plain disk.
func TestMany(t *testing.T) {
	for seed := range int64(40) {
		r := rand.New(rand.NewSource(seed))
		want := &plain{room: r.Intn(30)}
		for range r.Intn(40) {
			want.faults = append(want.faults, r.Intn(300)-10)
		}
		got := newDisk(t, want.room, want.faults...)
		for range 1000 {
			step(t, r, got, want)
		}
	}
}

// step does one call on both disks, and holds all that they tell against each other.
func step(t *testing.T, r *rand.Rand, got *disk.Disk, want *plain) {
	t.Helper()
	file, i := 1+want.last-r.Intn(8), r.Intn(6)-1
	switch r.Intn(10) {
	case 0:
		want.last++
		want.files = append(want.files, plainFile{number: want.last})
		if n := create(t, got); n != want.last {
			t.Fatal(n, want.last)
		}
	case 1:
		wantErr(t, "Delete", got.Delete(file), want.delete(file))
	case 2:
		short := make([]byte, 250+r.Intn(10))
		wantErr(t, "Append", got.Append(file, short), want.append(file, short))
	case 3, 4, 5:
		p := filled(byte(r.Intn(256)))
		wantErr(t, "Append", got.Append(file, p), want.append(file, p))
		clear(p)
	default:
		p, e := got.Read(file, i)
		if q, f := want.read(file, i); e != f || !bytes.Equal(p, q) {
			t.Fatalf("Read(%d, %d) = %v, %d, not %v, %d", file, i, p, e, q, f)
		}
		clear(p)
	}
	wantMeter(t, got, want.deeds, want.meter)
	var numbers []int
	for _, f := range want.files {
		numbers = append(numbers, f.number)
		wantSize(t, got, f.number, len(f.pages), api.OK)
	}
	wantFiles(t, got, numbers...)
}
