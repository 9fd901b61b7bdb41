package context

import (
	"kiln/api"
	"kiln/class"
	"kiln/object"
	"kiln/word"
)

// frame is a context as it lies in the heap.
type frame struct {
	object.Object
}

// at is what lies under an oop, whether it is a context or not.
func at(k *class.Kernel, oop int) frame { return frame{object.Of(k, oop)} }

// find is the context of that oop.
func find(k *class.Kernel, oop int) (frame, api.Errno) {
	if k.Space() == nil {
		return frame{}, api.ErrNil
	}
	f := at(k, oop)
	if !f.formed() {
		return frame{}, api.ErrContext
	}
	return f, api.OK
}

// named is the context that a word names; nil names none, which reads as zeros.
func named(k *class.Kernel, w api.Word) (frame, api.Errno) {
	if w == none() {
		return frame{}, api.OK
	}
	oop, _ := word.Oop(w)
	return find(k, oop)
}

// formed tells whether an object has the form of a context. What its sender and
// its outer are is not looked at: who goes to them sees what they are.
func (f frame) formed() bool {
	return f.Is(api.Context, api.FormatWords) && f.Size() >= api.ContextSlots &&
		allCounts(f.Object, api.ContextPc, api.ContextDepth, api.ContextTop, api.ContextTemps, api.ContextStart) &&
		// Where there are fewer slots than temporaries, the cells are below 0.
		f.top() <= f.cells()
}

// allCounts tells whether some slots hold integers from 0 on.
func allCounts(o object.Object, slots ...int) bool {
	for _, i := range slots {
		if n, e := word.Num(o.At(i)); e != api.OK || n < 0 {
			return false
		}
	}
	return true
}

func (f frame) depth() int { return f.NumberAt(api.ContextDepth) }

func (f frame) top() int { return f.NumberAt(api.ContextTop) }

func (f frame) temps() int { return f.NumberAt(api.ContextTemps) }

// cells is how many cells the stack has, whether they hold something or not.
func (f frame) cells() int { return f.Size() - api.ContextSlots - f.temps() }

// cell is the slot of a cell, the lowest of which is 0.
func (f frame) cell(i int) int { return api.ContextSlots + f.temps() + i }

// info is the context as data.
func (f frame) info() api.ContextInfo {
	return api.ContextInfo{
		Sender:   f.At(api.ContextSender),
		Method:   f.At(api.ContextMethod),
		Receiver: f.At(api.ContextReceiver),
		Outer:    f.At(api.ContextOuter),
		Pc:       f.NumberAt(api.ContextPc),
		Depth:    f.depth(),
		Top:      f.top(),
		Temps:    f.temps(),
		Stack:    f.cells(),
		Start:    f.NumberAt(api.ContextStart),
	}
}

// closure is a block as it lies in the heap.
type closure struct {
	object.Object
}

// findClosure is the block of that oop.
func findClosure(k *class.Kernel, oop int) (closure, api.Errno) {
	if k.Space() == nil {
		return closure{}, api.ErrNil
	}
	c := closure{object.Of(k, oop)}
	if !c.formed() {
		return closure{}, api.ErrContext
	}
	return c, api.OK
}

// formed tells whether an object has the form of a block.
func (c closure) formed() bool {
	return c.Is(api.Block, api.FormatWords) && c.Size() == api.BlockSlots &&
		allCounts(c.Object, api.BlockStart, api.BlockParams, api.BlockTemps) &&
		frame{c.ObjectAt(api.BlockOuter)}.formed()
}

// info is the block as data.
func (c closure) info() api.BlockInfo {
	return api.BlockInfo{
		Outer:    c.At(api.BlockOuter),
		Method:   c.At(api.BlockMethod),
		Receiver: c.At(api.BlockReceiver),
		Start:    c.NumberAt(api.BlockStart),
		Params:   c.NumberAt(api.BlockParams),
		Temps:    c.NumberAt(api.BlockTemps),
	}
}
