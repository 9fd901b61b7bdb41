package image

import (
	"kiln/api"
	"kiln/object"
)

// What an inner object is.
const (
	single   = 1 + iota // what just one slot names
	literals            // of one method or several
	source              // likewise
)

// lookAtOwners: nothing that the kernel works with is named where a program comes to it.
func (s *survey) lookAtOwners() {
	s.own(object.Of(s.kernel, api.Root), single, api.RootClasses, api.RootGlobals, api.RootProcesses)
	for _, c := range s.ofClass[api.Class] {
		s.own(c, single, api.ClassOwn, api.ClassSelectors, api.ClassMethods)
	}
	for _, m := range s.ofClass[api.Method] {
		s.own(m, literals, api.MethodLiterals)
		s.own(m, single, api.MethodCode)
		s.own(m, source, api.MethodSource)
	}
	for _, o := range s.met {
		if o.Format() == api.FormatWords {
			s.lookAtNamed(o)
		}
	}
}

// own says what the objects are that some slots name; each is but one thing.
func (s *survey) own(o object.Object, part int, slots ...int) {
	for _, i := range slots {
		inner := o.ObjectAt(i).Oop()
		if inner == api.Empty {
			continue
		}
		is, there := s.parts[inner]
		demand(!there || is == part && part != single)
		s.parts[inner] = part
	}
}

// lookAtNamed looks at what an object's slots name.
func (s *survey) lookAtNamed(o object.Object) {
	plain := s.plain(o)
	for i, w := range o.Words() {
		named := s.objectOf(w)
		demand(named.Oop() != api.Root)
		if plain(i) {
			demand(s.isFree(named))
		}
	}
}

// isFree tells whether a program may come to an object.
func (s *survey) isFree(o object.Object) bool {
	if _, inner := s.parts[o.Oop()]; inner {
		return false
	}
	switch o.Class().Oop() {
	case api.Method, api.Context, api.Process:
		return false
	}
	return true
}

// plain is which slots of an object a program comes to.
func (s *survey) plain(o object.Object) func(slot int) bool {
	switch o.Class().Oop() {
	case api.Class, api.Method, api.Process:
		return none
	case api.Block:
		return func(slot int) bool { return slot == api.BlockReceiver }
	case api.Context:
		return func(slot int) bool { return slot == api.ContextReceiver || slot >= api.ContextSlots }
	case api.Array:
		return s.plainOfArray(o.Oop())
	}
	return all
}

func (s *survey) plainOfArray(oop int) func(slot int) bool {
	switch {
	case oop == s.root(api.RootGlobals).Oop():
		return func(slot int) bool { return slot%pair == 1 }
	case oop == api.Root || s.parts[oop] == single:
		return none
	}
	return all
}

func none(slot int) bool { return false }

func all(slot int) bool { return true }
