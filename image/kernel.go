package image

import (
	"slices"

	"kiln/api"
	"kiln/class"
	"kiln/object"
)

// The room that a kernel takes where nothing was done with it yet.
const (
	bareWords = 160
	bareOops  = 20
)

// lookAtKernel holds the kernel's own objects against those of a new kernel.
func (s *survey) lookAtKernel() {
	bare, e := class.Boot(bareWords, bareOops)
	demand(e == api.OK && s.kernel.Space().Crowned() == api.Root)
	texts := bare.Symbols().All()
	demand(s.symbols.Count() >= len(texts) && slices.Equal(s.symbols.All()[:len(texts)], texts))
	for oop := api.Nil; oop <= api.Root; oop++ {
		lookAtOwn(object.Of(s.kernel, oop), object.Of(bare, oop))
	}
}

// lookAtOwn looks at an object of the kernel's own beside what it was at first.
func lookAtOwn(o, first object.Object) {
	demand(o.Is(first.Class().Oop(), first.Format()) && o.Size() == first.Size())
	for i := range o.Size() {
		if !changes(o.Oop(), i) {
			demand(o.At(i) == first.At(i))
		}
	}
}

// changes tells whether a slot of a kernel's own object may become another one
// in the course of time.
func changes(oop, slot int) bool {
	switch oop {
	case api.Root:
		return slot <= api.RootProcesses
	case api.Class, api.Method, api.Context, api.Process, api.Message:
		return false
	}
	return slot == api.ClassSelectors || slot == api.ClassMethods
}
