package kiln

import (
	"kiln/api"
	"kiln/collect"
	"kiln/context"
	"kiln/object"
	"kiln/word"
)

// allShaped tells whether every object that the root reaches has as many slots
// as its class asks for.
func (m *Machine) allShaped() bool {
	root, e := word.Object(m.kernel.Space().Crowned())
	if e != api.OK {
		return false
	}
	oops, e := collect.Reach(m.kernel.Space().Heap(), []api.Word{root})
	for _, oop := range oops {
		if !m.isShaped(object.Of(m.kernel, oop)) {
			return false
		}
	}
	return e == api.OK
}

func (m *Machine) isShaped(o object.Object) bool {
	class := o.Class().Oop()
	switch class {
	case api.UndefinedObject, api.FalseClass, api.TrueClass:
		return o.Size() == 0
	case api.Class:
		return o.Size() == api.ClassSlots
	case api.Context:
		_, e := context.Info(m.kernel, o.Oop())
		return e == api.OK
	case api.Block:
		_, e := context.Block(m.kernel, o.Oop())
		return e == api.OK
	case api.Integer, api.Symbol, api.String, api.Array, api.Method, api.Process, api.Message:
		// Of these the classes ask for no number of slots.
		return true
	}
	fields, e := m.kernel.Fields(class)
	return e == api.OK && o.Size() == len(fields)
}

// allFresh tells whether every method in a dictionary has its class's layout number.
func (m *Machine) allFresh() bool {
	for i := range m.kernel.Count() {
		class, e := m.kernel.Numbered(i + 1)
		if e != api.OK || !m.isFresh(class) {
			return false
		}
	}
	return true
}

// isFresh tells whether all methods of a class have its layout number.
func (m *Machine) isFresh(class int) bool {
	layout, e := m.kernel.Layout(class)
	if e != api.OK {
		return false
	}
	for _, selector := range m.book.Selectors(class) {
		oop, e := m.book.At(class, selector)
		if e != api.OK || object.Of(m.kernel, oop).NumberAt(api.MethodLayout) != layout {
			return false
		}
	}
	return true
}
