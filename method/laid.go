package method

import (
	"kiln/api"
	"kiln/class"
	"kiln/object"
	"kiln/parse"
	"kiln/word"
)

// laid is a method as it lies in the heap.
type laid struct {
	object.Object
}

// at is what lies under an oop, whether it is a method or not.
func at(k *class.Kernel, oop int) laid { return laid{object.Of(k, oop)} }

// find is the method of that oop.
func find(k *class.Kernel, oop int) (laid, api.Errno) {
	if k.Space() == nil {
		return laid{}, api.ErrNil
	}
	m := at(k, oop)
	if !m.formed() {
		return laid{}, api.ErrArg
	}
	return m, api.OK
}

// formed tells whether an object has the form of a method. What its class is
// is not looked at: a class may be none any more, and its methods are left.
func (m laid) formed() bool {
	if !m.Is(api.Method, api.FormatWords) || m.Size() != api.MethodSlots {
		return false
	}
	for _, i := range [...]int{api.MethodLayout, api.MethodArgs, api.MethodTemps, api.MethodStack} {
		if !isInt(m.At(i)) {
			return false
		}
	}
	return (m.isDoit() || word.Kind(m.At(api.MethodSelector)) == word.KindSymbol) &&
		m.ObjectAt(api.MethodLiterals).Is(api.Array, api.FormatWords) &&
		m.ObjectAt(api.MethodCode).Is(api.Array, api.FormatWords) &&
		allInts(m.ObjectAt(api.MethodCode).Words()) &&
		m.ObjectAt(api.MethodSource).Is(api.String, api.FormatBytes)
}

func isInt(w api.Word) bool { return word.Kind(w) == word.KindInt }

func allInts(list []api.Word) bool {
	for _, w := range list {
		if !isInt(w) {
			return false
		}
	}
	return true
}

// isDoit tells whether the source has no head.
func (m laid) isDoit() bool { return m.ObjectAt(api.MethodSelector).Oop() == api.Nil }

// text is the method's source, and how it is read.
func (m laid) text() text {
	source := m.ObjectAt(api.MethodSource).Bytes()
	if m.isDoit() {
		return text{source, parse.Doit}
	}
	return text{source, parse.Method}
}

// outdated tells whether the layout number is not that of the class.
func (m laid) outdated(k *class.Kernel) bool {
	layout, e := k.Layout(m.ObjectAt(api.MethodClass).Oop())
	return e != api.OK || m.NumberAt(api.MethodLayout) != layout
}

// info is the method as data.
func (m laid) info() api.MethodInfo {
	return api.MethodInfo{
		Selector: m.TextAt(api.MethodSelector),
		Class:    m.ObjectAt(api.MethodClass).Oop(),
		Layout:   m.NumberAt(api.MethodLayout),
		Args:     m.NumberAt(api.MethodArgs),
		Temps:    m.NumberAt(api.MethodTemps),
		Stack:    m.NumberAt(api.MethodStack),
		Literals: m.ObjectAt(api.MethodLiterals).Oop(),
		Code:     m.ObjectAt(api.MethodCode).Numbers(),
		Source:   m.ObjectAt(api.MethodSource).Bytes(),
	}
}
