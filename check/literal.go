package check

import "kiln/api"

// shelf looks at a code's literals.
type shelf struct {
	symbols  int // how many there are
	elements int // how many were met in arrays
}

func (s *shelf) look(literals []api.Lit) api.Errno {
	for i := range literals {
		l := &literals[i]
		if !isObject(l) {
			return api.ErrOperand
		}
		if e := s.inside(l); e != api.OK {
			return e
		}
	}
	return api.OK
}

// inside looks at the elements of a literal, if it is an array. Counting them
// ends it even where a list of elements holds itself.
func (s *shelf) inside(l *api.Lit) api.Errno {
	if l.Kind != api.LitArray {
		return api.OK
	}
	for i := range l.Items {
		element := &l.Items[i]
		if !s.isElement(element) {
			return api.ErrOperand
		}
		s.elements++
		if s.elements > api.MaxCode {
			return api.ErrLong
		}
		if e := s.inside(element); e != api.OK {
			return e
		}
	}
	return api.OK
}

// isObject tells whether a literal may stand outside of arrays, too.
func isObject(l *api.Lit) bool {
	switch l.Kind {
	case api.LitText:
		return len(l.Text) <= api.MaxText
	case api.LitArray:
		return len(l.Items) <= api.MaxArray
	}
	return false
}

func (s *shelf) isElement(l *api.Lit) bool {
	switch l.Kind {
	case api.LitInt:
		return within(l.Number, api.LeastInt, api.MostInt)
	case api.LitSymbol:
		return below(l.Number, s.symbols)
	case api.LitNil, api.LitTrue, api.LitFalse:
		return true
	}
	return isObject(l)
}
