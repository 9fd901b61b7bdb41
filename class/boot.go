package class

import (
	"kiln/act"
	"kiln/api"
	"kiln/space"
	"kiln/symbol"
	"kiln/word"
)

// kernelNames is the kernel's classes, by their numbers.
func kernelNames() []string {
	return []string{
		"Object", "UndefinedObject", "False", "True", "Integer", "Symbol", "String",
		"Array", "Class", "Method", "Block", "Context", "Process", "Message",
	}
}

// body is an object that is still to be made.
type body struct {
	class int
	slots []api.Word
}

// Boot is a kernel in a space of so many words and oops.
func Boot(words, oops int) (*Kernel, api.Errno) {
	s, e := space.New(words, oops)
	if e != api.OK {
		return nil, e
	}
	t, e := symbol.New(api.MaxSymbols)
	if e != api.OK {
		return nil, e
	}
	a := act.Begin(s, t)
	// Each object is kept as it is made: else the collection of a space that is
	// full would take away those that nothing leads to yet.
	if e = a.End(lay(a)); e != api.OK {
		return nil, e
	}
	if e = s.Crown(api.Root); e != api.OK {
		return nil, e
	}
	return Over(s, t)
}

// lay makes the kernel's objects, by rising oops.
func lay(a *act.Act) api.Errno {
	names, e := a.Symbols(kernelNames()...)
	if e != api.OK {
		return e
	}
	for _, b := range bodies(names) {
		if _, e = a.Make(b.class, b.slots...); e != api.OK {
			return e
		}
	}
	return api.OK
}

// bodies is the kernel's objects, by rising oops.
func bodies(names []api.Word) []body {
	list := []body{{class: api.UndefinedObject}, {class: api.FalseClass}, {class: api.TrueClass}}
	above := api.Nil
	var classes []api.Word
	for i, name := range names {
		list = append(list, body{api.Class, newClass(name, object(above), object(api.Empty), i+1)})
		classes = append(classes, object(api.Object+i))
		above = api.Object
	}
	return append(list, body{class: api.Array}, body{api.Array, root()}, body{api.Array, classes})
}

// newClass is the slots of a class without methods.
func newClass(name, above, own api.Word, n int) []api.Word {
	return []api.Word{
		api.ClassName:      name,
		api.ClassSuper:     above,
		api.ClassOwn:       own,
		api.ClassSelectors: object(api.Empty),
		api.ClassMethods:   object(api.Empty),
		api.ClassLayout:    integer(0),
		api.ClassNumber:    integer(n),
	}
}

// root is the root's slots. Those that have no name are where the kernel's
// objects without a class of their own are found.
func root() []api.Word {
	return []api.Word{
		api.RootClasses:   object(api.Classes),
		api.RootGlobals:   object(api.Empty),
		api.RootProcesses: object(api.Empty),
		object(api.Empty), object(api.Nil), object(api.False), object(api.True), object(api.Nil),
	}
}

// object is the word of an oop that may be one.
func object(oop int) api.Word {
	w, _ := word.Object(oop)
	return w
}

// integer is the word of a number in range.
func integer(n int) api.Word {
	w, _ := word.Int(n)
	return w
}
