package loops

import (
	"commissary/api"
	"commissary/page"
	"commissary/row"
)

// joining is a join that is done.
type joining struct {
	Job
	block block
	put   func([]api.Value) api.Errno
	kept  [][]api.Value // the rows of the block, while the right side is read
	met   []bool        // which of them have met one of the right side
	pair  []api.Value   // the two rows that are held against each other
}

// take keeps a row of the left side. One that does not fit in begins the next block.
func (s *joining) take(left []api.Value) api.Errno {
	e := s.block.keep(left)
	if e != api.ErrFull {
		return e
	}
	if e := s.turn(); e != api.OK {
		return e
	}
	s.block = newBlock(s.block.most)
	return s.block.keep(left)
}

// turn reads the right side once, and tells what comes of the rows that are kept.
func (s *joining) turn() api.Errno {
	r, e := s.Place.Reader(s.Right)
	if e != api.OK {
		return e
	}
	defer r.Close()
	if s.kept, e = page.Pages(s.block.pages); e != api.OK {
		return e
	}
	s.met = make([]bool, len(s.kept))
	if e := each(r, s.meet); e != api.OK {
		return e
	}
	for i, left := range s.kept {
		if e := s.alone(left, s.met[i]); e != api.OK {
			return e
		}
	}
	return api.OK
}

// meet holds a row of the right side against each that is kept, even if that has met one:
// On may err.
func (s *joining) meet(right []api.Value) api.Errno {
	for i, left := range s.kept {
		// Not joined by row: those of a JoinSemi, a JoinAnti may be longer together than a row is.
		s.pair = append(append(s.pair[:0], left...), right...)
		holds, e := s.holds(s.pair)
		if e != api.OK {
			return e
		}
		if !holds {
			continue
		}
		s.met[i] = true
		if s.together() {
			if e := s.both(left, right); e != api.OK {
				return e
			}
		}
	}
	return api.OK
}

// alone tells what a row of the left side comes to by itself.
func (s *joining) alone(left []api.Value, met bool) api.Errno {
	switch {
	case s.Join == api.JoinLeft && !met:
		nulls, e := row.Nulls(s.Wide)
		if e != api.OK {
			return e
		}
		return s.both(left, nulls)
	case s.Join == api.JoinSemi && met, s.Join == api.JoinAnti && !met:
		return s.put(left)
	}
	return api.OK
}

// both tells two rows together.
func (s *joining) both(left, right []api.Value) api.Errno {
	r, e := row.Join(left, right)
	if e != api.OK {
		return e
	}
	return s.put(r)
}

// block is pages of memory that rows are kept in, each as full as can be.
type block struct {
	most  int // how many pages there may be
	pages [][]byte
}

func newBlock(most int) block {
	return block{most: most, pages: [][]byte{page.New()}}
}

// keep keeps r behind all others: ErrFull, if it does not fit in.
func (b *block) keep(r []api.Value) api.Errno {
	last := len(b.pages) - 1
	fuller, e := page.Add(b.pages[last], r)
	if e == api.ErrFull && len(b.pages) < b.most {
		b.pages = append(b.pages, page.New())
		last++
		fuller, e = page.Add(b.pages[last], r)
	}
	if e != api.OK {
		return e
	}
	b.pages[last] = fuller
	return api.OK
}
