package spill

import (
	"commissary/api"
	"commissary/page"
)

// The states of a reader: one that no call made is of none.
const (
	reading = 1 + iota
	closed
)

// Reader reads the rows of a file of its place.
type Reader struct {
	Place
	file  int
	next  int           // the page that is read next
	rows  [][]api.Value // of the page that was read last, those that are left
	state int
}

// Reader is a reader of a file, from its first page on.
func (p Place) Reader(file int) (*Reader, api.Errno) {
	if _, e := p.Disk.Size(file); e != api.OK {
		return nil, e
	}
	if e := p.take(); e != api.OK {
		return nil, e
	}
	return &Reader{Place: p, file: file, state: reading}, api.OK
}

// Next is the next row, if one is left.
func (r *Reader) Next() ([]api.Value, bool, api.Errno) {
	if r == nil || r.state == 0 {
		return nil, false, api.ErrClosed
	}
	if r.state == closed {
		return nil, false, api.OK
	}
	for len(r.rows) == 0 {
		more, e := r.turn()
		if e != api.OK || !more {
			return nil, false, e
		}
	}
	first := r.rows[0]
	r.rows = r.rows[1:]
	return first, true, api.OK
}

// turn reads the next page, if the file has one now.
func (r *Reader) turn() (bool, api.Errno) {
	size, e := r.Disk.Size(r.file)
	if e != api.OK || r.next >= size {
		return false, e
	}
	p, e := r.Disk.Read(r.file, r.next)
	if e != api.OK {
		return false, e
	}
	rows, e := page.Rows(p)
	if e != api.OK {
		return false, e
	}
	r.next++
	r.rows = rows
	return true, api.OK
}

// Close ends r.
func (r *Reader) Close() {
	if r == nil || r.state != reading {
		return
	}
	r.state = closed
	r.rows = nil
	r.give()
}
