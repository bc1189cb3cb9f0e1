package spill_test

import (
	"math/rand"
	"slices"
	"testing"

	"commissary/api"
	"commissary/page"
	"commissary/spill"
)

// desk is what the document asks of a place on which many write and read in any order:
// what each file has, which errors may come, and how many pages are held.
type desk struct {
	t       *testing.T
	rnd     *rand.Rand
	p       spill.Place
	grant   int
	last    int // the number of the file that was made last
	files   map[int][][]api.Value
	writers []*writing
	readers []*reading
}

type writing struct {
	w     *spill.Writer
	file  int
	rows  [][]api.Value
	fault api.Errno
}

type reading struct {
	r    *spill.Reader
	file int
	rows [][]api.Value // those that are still to come
	page int           // how many of them stand in the page that was read
}

func (d *desk) held() int {
	return len(d.writers) + len(d.readers)
}

// check asks for the pages that are held, and the files that there are.
func (d *desk) check() {
	d.t.Helper()
	var want []int
	for n := range d.files {
		want = append(want, n)
	}
	for _, w := range d.writers {
		want = append(want, w.file)
	}
	slices.Sort(want)
	wantHeld(d.t, d.p, d.held(), want...)
	if n := d.p.Left(); n != d.grant-d.held() {
		d.t.Fatal(n, "pages are left")
	}
}

// failed tells whether a deed was refused; only a full disk and a fault may refuse one.
func (d *desk) failed(e api.Errno) bool {
	d.t.Helper()
	if e != api.OK && e != api.ErrFull && e != api.ErrFault {
		d.t.Fatal(e)
	}
	return e != api.OK
}

func (d *desk) write() {
	w, e := d.p.Writer()
	if d.held() == d.grant {
		wantErr(d.t, "Writer", e, api.ErrBudget)
		return
	}
	wantErr(d.t, "Writer", e, api.OK)
	d.last++
	d.writers = append(d.writers, &writing{w: w, file: d.last})
}

func (d *desk) put(w *writing) {
	for range 1 + d.rnd.Intn(40) {
		r := drawn(d.rnd)
		e := w.w.Put(r)
		switch {
		case w.fault != api.OK:
			wantErr(d.t, "Put", e, w.fault)
		case d.failed(e):
			w.fault = e
		default:
			w.rows = append(w.rows, r)
		}
		if n := w.w.Len(); n != len(w.rows) {
			d.t.Fatal(n, len(w.rows))
		}
	}
}

func (d *desk) done(i int) {
	w := d.writers[i]
	d.writers = slices.Delete(d.writers, i, i+1)
	file, e := w.w.Done()
	if w.fault != api.OK {
		wantErr(d.t, "Done", e, w.fault)
	} else if !d.failed(e) {
		if file != w.file {
			d.t.Fatal(file, w.file)
		}
		d.files[file] = w.rows
	}
	d.check()
	w.w.Drop()
	wantErr(d.t, "Put", w.w.Put(num(1)), api.ErrClosed)
}

func (d *desk) read(file int) {
	r, e := d.p.Reader(file)
	if d.held() == d.grant {
		wantErr(d.t, "Reader", e, api.ErrBudget)
		return
	}
	wantErr(d.t, "Reader", e, api.OK)
	d.readers = append(d.readers, &reading{r: r, file: file, rows: d.files[file]})
}

func (d *desk) next(r *reading) {
	for range 1 + d.rnd.Intn(40) {
		_, there := d.files[r.file]
		if r.page == 0 && !there {
			wantNoNext(d.t, r.r, api.ErrNone)
			return
		}
		if len(r.rows) == 0 {
			wantNoNext(d.t, r.r, api.OK)
			return
		}
		got, there, e := r.r.Next()
		if r.page == 0 && e == api.ErrFault && !there && len(got) == 0 {
			continue
		}
		if e != api.OK || !there || !same([][]api.Value{got}, r.rows[:1]) {
			d.t.Fatal(got, there, e, r.rows[0])
		}
		if r.page == 0 {
			pages, _ := page.Fill(r.rows)
			r.page = page.Count(pages[0])
		}
		r.page--
		r.rows = r.rows[1:]
	}
}

// any is the number of one of the files that are done.
func (d *desk) any() (int, bool) {
	var l []int
	for n := range d.files {
		l = append(l, n)
	}
	if len(l) == 0 {
		return 0, false
	}
	slices.Sort(l)
	return l[d.rnd.Intn(len(l))], true
}

// turn does one thing of those that may be done now.
func (d *desk) turn() {
	file, there := d.any()
	switch n := d.rnd.Intn(12); {
	case n == 0:
		d.write()
	case n < 4 && len(d.writers) > 0:
		d.put(d.writers[d.rnd.Intn(len(d.writers))])
	case n == 4 && len(d.writers) > 0:
		d.done(d.rnd.Intn(len(d.writers)))
	case n == 5 && len(d.writers) > 0 && d.rnd.Intn(3) == 0:
		i := d.rnd.Intn(len(d.writers))
		d.writers[i].w.Drop()
		wantNotDone(d.t, d.writers[i].w, api.ErrClosed)
		d.writers = slices.Delete(d.writers, i, i+1)
	case n == 6 && there:
		d.read(file)
	case n < 10 && len(d.readers) > 0:
		d.next(d.readers[d.rnd.Intn(len(d.readers))])
	case n == 10 && len(d.readers) > 0:
		i := d.rnd.Intn(len(d.readers))
		d.readers[i].r.Close()
		d.readers[i].r.Close()
		wantNoNext(d.t, d.readers[i].r, api.OK)
		d.readers = slices.Delete(d.readers, i, i+1)
	case n == 11 && there && d.rnd.Intn(3) == 0:
		d.p.Remove(file, file, 0)
		delete(d.files, file)
	}
}

// P19.1, P19.2, P19.3: many writers and readers of one place, in any order, on a disk that is at fault and full at times.
func TestInAnyOrder(t *testing.T) {
	for seed := range int64(60) {
		rnd := rand.New(rand.NewSource(seed))
		var faults []int
		for range rnd.Intn(30) {
			faults = append(faults, 1+rnd.Intn(400))
		}
		grant := 1 + rnd.Intn(6)
		d := &desk{t: t, rnd: rnd, p: newPlace(t, 10+rnd.Intn(60), grant, faults...), grant: grant, files: map[int][][]api.Value{}}
		for range 400 {
			d.turn()
			d.check()
		}
		for len(d.writers) > 0 {
			d.done(0)
		}
		for _, r := range d.readers {
			r.r.Close()
		}
		d.readers = nil
		d.check()
	}
}
