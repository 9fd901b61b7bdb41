package image

import (
	"kiln/api"
	"kiln/context"
)

// lookAtContexts: each fits its method, and the context in which its block was written.
func (s *survey) lookAtContexts() {
	for _, c := range s.ofClass[api.Context] {
		x := s.context(c.Oop())
		demand(within(x.Depth, 1, api.MaxContexts))
		demand(s.objectOf(x.Method).Is(api.Method, api.FormatWords))
		demand(s.runs[c.Oop()] > 0 || s.isNil(x.Sender))
		for i := x.Top; i < x.Stack; i++ {
			demand(s.isNil(c.At(api.ContextSlots + x.Temps + i)))
		}
		_, e := context.Home(s.kernel, c.Oop())
		demand(e == api.OK)
		s.lookAtFrame(x)
	}
}

// lookAtFrame looks at a context beside its method and its outer.
func (s *survey) lookAtFrame(x api.ContextInfo) {
	around := nowhere
	if s.isNil(x.Outer) {
		demand(x.Start == 0)
	} else {
		around = s.written(x.Outer, x.Method, x.Receiver)
	}
	m := s.objectOf(x.Method)
	code, fresh := s.codes[m.Oop()]
	if !fresh {
		return
	}
	b, there := s.layout(m.Oop()).block(x.Start, around)
	demand(there && x.Temps == b.slots && x.Stack == code.Stack)
	demand(s.isKind(x.Receiver, m.ObjectAt(api.MethodClass).Oop()))
}

// written is where the body begins of the context in which a block of a method
// and a receiver was written; it must have the same ones.
func (s *survey) written(outer, method, receiver api.Word) int {
	x := s.context(s.objectOf(outer).Oop())
	demand(x.Method == method && x.Receiver == receiver)
	return x.Start
}

// isKind tells whether a word's class is that class or a descendant.
func (s *survey) isKind(w api.Word, class int) bool {
	of, e := s.kernel.Of(w)
	for of != class && e == api.OK {
		of, e = s.kernel.Super(of)
	}
	return e == api.OK
}

func (s *survey) isNil(w api.Word) bool { return s.objectOf(w).Oop() == api.Nil }

// lookAtBlocks: each fits the context in which it was written.
func (s *survey) lookAtBlocks() {
	for _, o := range s.ofClass[api.Block] {
		x, e := context.Block(s.kernel, o.Oop())
		demand(e == api.OK)
		around := s.written(x.Outer, x.Method, x.Receiver)
		m := s.objectOf(x.Method).Oop()
		if _, fresh := s.codes[m]; fresh {
			b, there := s.layout(m).block(x.Start, around)
			demand(there && x.Params == b.params && x.Temps == b.slots)
		}
	}
}
