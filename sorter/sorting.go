package sorter

import (
	"slices"

	"commissary/api"
	"commissary/page"
	"commissary/row"
	"commissary/spill"
	"commissary/tree"
)

// sorting is a file of a place that is sorted.
type sorting struct {
	spill.Place
	left int // how many pages were left when it began
	by   []int
	down []bool
	once bool
	runs []int // the files of the runs, the oldest one first
}

// order is how two rows stand.
func (s *sorting) order(a, b []api.Value) int {
	return compare(a, b, s.by, s.down)
}

// clean deletes the runs that there are.
func (s *sorting) clean() {
	s.Remove(s.runs...)
}

// take is the file of the only run, which is none of s's any more.
func (s *sorting) take() int {
	file := s.runs[0]
	s.runs = nil
	return file
}

// cut makes runs of a file's rows: one of each of as many as the kept pages hold,
// and at the end one of all others, even if there is none.
func (s *sorting) cut(file int) api.Errno {
	r, e := s.Reader(file)
	if e != api.OK {
		return e
	}
	defer r.Close()
	if e := s.Ledger.Take(s.Account, kept(s.left)); e != api.OK {
		return e
	}
	defer s.Ledger.Give(s.Account, kept(s.left))
	d := desk{most: kept(s.left)}
	for {
		next, there, e := r.Next()
		if e != api.OK {
			return e
		}
		if !there {
			return s.write(d.pages)
		}
		if d.put(next) {
			continue
		}
		if e := s.write(d.pages); e != api.OK {
			return e
		}
		d.pages = nil
		d.put(next)
	}
}

// write makes a run of the rows of some pages.
func (s *sorting) write(pages [][]byte) api.Errno {
	l, e := page.Pages(pages)
	if e != api.OK {
		return e
	}
	slices.SortFunc(l, s.order)
	if s.once {
		l = slices.CompactFunc(l, row.Same)
	}
	run, e := s.Write(l)
	if e != api.OK {
		return e
	}
	s.runs = append(s.runs, run)
	return api.OK
}

// merge makes one run of the oldest ones.
func (s *sorting) merge() api.Errno {
	n := min(fan(s.left), len(s.runs))
	run, e := s.merged(s.runs[:n])
	if e != api.OK {
		return e
	}
	s.Remove(s.runs[:n]...)
	s.runs = append(s.runs[n:], run)
	return api.OK
}

// merged is a new file of the rows of some runs, in order.
func (s *sorting) merged(runs []int) (int, api.Errno) {
	heads, e := tree.New(len(runs), s.order)
	if e != api.OK {
		return 0, e
	}
	readers := make([]*spill.Reader, len(runs))
	for i, run := range runs {
		if readers[i], e = s.Reader(run); e != api.OK {
			return 0, e
		}
		defer readers[i].Close()
		if e := advance(heads, i, readers[i]); e != api.OK {
			return 0, e
		}
	}
	w, e := s.Writer()
	if e != api.OK {
		return 0, e
	}
	defer w.Drop()
	o := outlet{Writer: w, once: s.once}
	for i, r, there := heads.Win(); there; i, r, there = heads.Win() {
		if e := o.tell(r); e != api.OK {
			return 0, e
		}
		if e := advance(heads, i, readers[i]); e != api.OK {
			return 0, e
		}
	}
	return w.Done()
}

// advance lets a leaf hold the next row of its reader, or nothing if none is left.
func advance(heads *tree.Tree[[]api.Value], leaf int, r *spill.Reader) api.Errno {
	next, there, e := r.Next()
	if e != api.OK {
		return e
	}
	if !there {
		return heads.Clear(leaf)
	}
	return heads.Set(leaf, next)
}

// outlet is a writer that may be asked to put rows that are the same once.
type outlet struct {
	*spill.Writer
	once bool
	last []api.Value
}

// tell puts r, which is not ahead of the last one.
func (o *outlet) tell(r []api.Value) api.Errno {
	if o.once && o.Len() > 0 && row.Same(o.last, r) {
		return api.OK
	}
	o.last = r
	return o.Put(r)
}

// desk is pages of memory in which rows are kept, each as full as can be.
type desk struct {
	most  int
	pages [][]byte
}

// put keeps r, if it fits into the last page, or there may be one more.
func (d *desk) put(r []api.Value) bool {
	if n := len(d.pages); n > 0 {
		if p, e := page.Add(d.pages[n-1], r); e == api.OK {
			d.pages[n-1] = p
			return true
		}
	}
	if len(d.pages) == d.most {
		return false
	}
	p, e := page.Add(page.New(), r)
	if e != api.OK {
		return false
	}
	d.pages = append(d.pages, p)
	return true
}
