package spill

import (
	"commissary/api"
	"commissary/page"
)

// Writer fills a new file of its place with rows.
type Writer struct {
	Place
	file  int
	last  []byte    // the page that is not appended yet
	rows  int       // how many were put
	fault api.Errno // what Append refused
	open  bool      // it was made, and did not end
}

// Writer is a writer of a new file.
func (p Place) Writer() (*Writer, api.Errno) {
	if e := p.take(); e != api.OK {
		return nil, e
	}
	file, e := p.Disk.Create()
	if e != api.OK {
		p.give()
		return nil, e
	}
	return &Writer{Place: p, file: file, last: page.New(), open: true}, api.OK
}

// ended tells whether w takes no rows any more; a Writer that no call made never did.
func (w *Writer) ended() bool {
	return w == nil || !w.open
}

// Put makes r the last row.
func (w *Writer) Put(r []api.Value) api.Errno {
	if w.ended() {
		return api.ErrClosed
	}
	if w.fault != api.OK {
		return w.fault
	}
	fuller, e := page.Add(w.last, r)
	if e == api.ErrFull {
		if e := w.flush(); e != api.OK {
			return e
		}
		fuller, e = page.Add(w.last, r)
	}
	if e != api.OK {
		return e
	}
	w.last = fuller
	w.rows++
	return api.OK
}

// flush appends the last page, and begins another one. What is refused once is
// kept: the rows of that page are lost, so that no further one may follow.
func (w *Writer) flush() api.Errno {
	w.fault = w.Disk.Append(w.file, w.last)
	w.last = page.New()
	return w.fault
}

// Len is how many rows were put.
func (w *Writer) Len() int {
	if w == nil {
		return 0
	}
	return w.rows
}

// Done ends w, and is its file.
func (w *Writer) Done() (int, api.Errno) {
	if w.ended() {
		return 0, api.ErrClosed
	}
	defer w.end()
	if w.fault == api.OK && page.Count(w.last) > 0 {
		w.flush()
	}
	if w.fault != api.OK {
		w.Remove(w.file)
		return 0, w.fault
	}
	return w.file, api.OK
}

// Drop ends w, and deletes its file.
func (w *Writer) Drop() {
	if w.ended() {
		return
	}
	defer w.end()
	w.Remove(w.file)
}

func (w *Writer) end() {
	w.open = false
	w.last = nil
	w.give()
}
