package context

import (
	"iter"

	"kiln/api"
	"kiln/class"
)

// along is a context, and then those that are come to from it through one slot,
// its sender's or its outer's, up to nil. What is neither nil nor a context is
// told as an error, and is the last.
func (f frame) along(slot int) iter.Seq2[frame, api.Errno] {
	return func(yield func(frame, api.Errno) bool) {
		for next := f; yield(next, api.OK); {
			next = frame{next.ObjectAt(slot)}
			if next.Oop() == api.Nil {
				return
			}
			if !next.formed() {
				yield(frame{}, api.ErrContext)
				return
			}
		}
	}
}

// line is the oops of a context and all that are come to through one slot.
func line(k *class.Kernel, context, slot int) ([]int, api.Errno) {
	first, e := find(k, context)
	if e != api.OK {
		return nil, e
	}
	var list []int
going:
	for f, fault := range first.along(slot) {
		switch {
		case fault != api.OK:
			e = fault
		case len(list) == api.MaxContexts:
			// It may be a ring, which has no end.
			e = api.ErrContext
			break going
		default:
			list = append(list, f.Oop())
		}
	}
	if e != api.OK {
		return nil, e
	}
	return list, api.OK
}

// owner is the context that is so many scopes outward, which has a temporary i.
func owner(k *class.Kernel, context, outward, i int) (frame, api.Errno) {
	inner, e := find(k, context)
	if e != api.OK {
		return frame{}, e
	}
	if !within(outward, 0, api.MaxContexts) {
		return frame{}, api.ErrArg
	}
	f, e := inner.outward(outward)
	if e != api.OK {
		return frame{}, e
	}
	if !within(i, 0, f.temps()-1) {
		return frame{}, api.ErrSlot
	}
	return f, api.OK
}

// outward is the context that is come to by going outward n times.
func (f frame) outward(n int) (frame, api.Errno) {
	for outer, e := range f.along(api.ContextOuter) {
		if n == 0 || e != api.OK {
			return outer, e
		}
		n--
	}
	return frame{}, api.ErrContext
}
