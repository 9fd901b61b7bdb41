package proc_test

import (
	"slices"

	"kiln/api"
	"kiln/context"
	"kiln/method"
	"kiln/step"
)

// What the layer promises, told over with the calls of the layers below it and
// the slots of objects alone: worlds in which it was done by hand are held
// against worlds in which the layer did it.

// spawnByHand is P19.2.
func (w *world) spawnByHand(source string) (int, api.Fault) {
	s, h, symbols := w.k.Space(), w.k.Space().Heap(), w.k.Symbols().Count()
	mark, kept, was := h.Marked(), len(s.Kept()), w.cells()
	if len(was) == api.MaxProcesses {
		return 0, fault(api.ErrCount, 0)
	}
	refused := func(e api.Errno) (int, api.Fault) {
		s.Drop(len(s.Kept()) - kept)
		w.k.Symbols().Back(symbols)
		if h.Marked() != 0 {
			h.Mark(mark)
		}
		return 0, fault(e, 0)
	}
	m, f := method.Doit(w.k, source)
	if f.Code != api.OK {
		return 0, f
	}
	s.Keep(obj(m))
	temps, stack := int(w.at(m, api.MethodTemps)/2), int(w.at(m, api.MethodStack)/2)
	c, e := context.New(w.k, api.ContextInfo{Sender: null, Method: obj(m), Receiver: null, Outer: null, Temps: temps, Stack: stack}, nil)
	if e != api.OK {
		return refused(e)
	}
	s.Keep(obj(c))
	p, e := s.Alloc(obj(api.Process), 1, api.FormatWords)
	if e != api.OK {
		return refused(e)
	}
	s.Keep(p)
	w.put(int(p/4), 0, obj(c))
	all, e := s.Alloc(obj(api.Array), len(was)+1, api.FormatWords)
	if e != api.OK {
		return refused(e)
	}
	for i, x := range append(was, p) {
		w.put(int(all/4), i, x)
	}
	s.SetRoot(api.RootProcesses, all)
	s.Drop(3)
	return len(was) + 1, api.Fault{}
}

// runByHand is P19.3.
func (w *world) runByHand(n, fuel int) (api.Ran, api.Errno) {
	was := w.cells()
	if n < 1 || n > len(was) || was[n-1]%4 != 0 {
		return api.Ran{}, api.ErrProcess
	}
	if fuel < 0 || fuel > 1<<40 {
		return api.Ran{}, api.ErrArg
	}
	p := int(was[n-1] / 4)
	r := failed(0, api.ErrStale)
	if !w.staleByHand(int(w.at(p, api.ProcessTop) / 4)) {
		r = step.Go(w.k, w.b, p, fuel)
	}
	if r.State == api.Failed {
		for c := int(w.at(p, api.ProcessTop) / 4); c != api.Nil; {
			next := int(w.at(c, api.ContextSender) / 4)
			w.put(c, api.ContextSender, null)
			c = next
		}
	}
	if r.State != api.Ready {
		w.put(w.array(), n-1, num(int(r.Code)))
	}
	return r, api.OK
}

// staleByHand is P19.5, of a context whose chain and outers come to no error.
func (w *world) staleByHand(top int) bool {
	for c := top; c != api.Nil; c = int(w.at(c, api.ContextSender) / 4) {
		for o := c; o != api.Nil; o = int(w.at(o, api.ContextOuter) / 4) {
			m := int(w.at(o, api.ContextMethod) / 4)
			if w.at(m, api.MethodLayout) != w.at(int(w.at(m, api.MethodClass)/4), api.ClassLayout) {
				return true
			}
		}
	}
	return false
}

// renew compiles all methods of a class and its descendants anew with another
// layout number, as a reshape does.
func (w *world) renew(class string) {
	w.t.Helper()
	w.raise(class)
	for _, n := range w.k.Under(w.named(class)) {
		c, _ := w.k.Numbered(n)
		fields, _ := w.k.Fields(c)
		layout, _ := w.k.Layout(c)
		for _, selector := range slices.Clone(w.b.Selectors(c)) {
			old, _ := w.b.At(c, selector)
			m, e := method.Again(w.k, old, fields, layout)
			if e != api.OK {
				w.t.Fatalf("Again(%q) = %d", selector, e)
			}
			if e = w.b.Put(c, selector, m); e != api.OK {
				w.t.Fatalf("Put(%q) = %d", selector, e)
			}
		}
	}
}
