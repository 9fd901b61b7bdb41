package space

import (
	"kiln/api"
	"kiln/heap"
)

// bracket is what an Abort needs to know of the time of its Begin.
type bracket struct {
	point heap.Point
	mark  int
}

// Begin collects; from then on nothing is collected.
func (s *Space) Begin() api.Errno {
	if _, _, e := s.Collect(); e != api.OK {
		return e
	}
	s.bracket = &bracket{point: s.heap.Point(), mark: s.heap.Marked()}
	return api.OK
}

// Abort gives back what was allocated since.
func (s *Space) Abort() api.Errno {
	b, e := s.closed()
	if e != api.OK {
		return e
	}
	if e = s.heap.Back(b.point); e != api.OK {
		return e
	}
	// A mark that hit stays used up, and one that was set since where there was
	// none has no count to go back to.
	if b.mark == 0 || s.heap.Marked() == 0 {
		return api.OK
	}
	return s.heap.Mark(b.mark)
}

// Commit lets it stay.
func (s *Space) Commit() api.Errno {
	_, e := s.closed()
	return e
}

// closed is the bracket that was open, and is not any more.
func (s *Space) closed() (*bracket, api.Errno) {
	if !s.made() {
		return nil, api.ErrNil
	}
	if s.bracket == nil {
		return nil, api.ErrPoint
	}
	b := s.bracket
	s.bracket = nil
	return b, api.OK
}
