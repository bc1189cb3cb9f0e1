package fanout

import (
	"commissary/api"
	"commissary/hash"
	"commissary/row"
	"commissary/spill"
)

// parting is a file of a place that is parted.
type parting struct {
	spill.Place
	seed  uint64
	level int
	cols  []int
	parts []*spill.Writer
	files []int // of the parts that are done
}

// split parts a file, whose rows it reads once.
func (s *parting) split(file, fan int) ([]int, api.Errno) {
	r, e := s.Reader(file)
	if e != api.OK {
		return nil, e
	}
	defer r.Close()
	if e := s.open(fan); e != api.OK {
		return nil, e
	}
	if _, e := each(r, s.put); e != api.OK {
		return nil, e
	}
	return s.done()
}

// open makes a writer for each part.
func (s *parting) open(fan int) api.Errno {
	for range fan {
		w, e := s.Writer()
		if e != api.OK {
			return e
		}
		s.parts = append(s.parts, w)
	}
	return api.OK
}

// put puts r, as it stands, into its part.
func (s *parting) put(r []api.Value) api.Errno {
	key, e := row.Pick(r, s.cols)
	if e != api.OK {
		return e
	}
	part, e := hash.Part(s.seed, s.level, len(s.parts), key)
	if e != api.OK {
		return e
	}
	return s.parts[part].Put(r)
}

// done ends all parts, whose files are none of s's any more.
func (s *parting) done() ([]int, api.Errno) {
	for _, w := range s.parts {
		file, e := w.Done()
		if e != api.OK {
			return nil, e
		}
		s.files = append(s.files, file)
	}
	files := s.files
	s.files = nil
	return files, api.OK
}

// clean drops the parts that are not done, and deletes the files of those that are.
func (s *parting) clean() {
	for _, w := range s.parts {
		w.Drop()
	}
	s.Remove(s.files...)
}
