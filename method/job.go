package method

import (
	"kiln/act"
	"kiln/api"
	"kiln/class"
	"kiln/gen"
	"kiln/scope"
	"kiln/word"
)

// job is a call that makes code: an act over a kernel.
type job struct {
	*act.Act
	kernel *class.Kernel
}

// What becomes of the symbols that a job adds where nothing is refused.
const (
	toStay   = iota
	forTrial // they are given back all the same
)

// whole does a job, and answers the oop of what it made. Whichever way it ends,
// it lets go what it kept, and gives back what it must, by the one function
// that is deferred here.
func whole(k *class.Kernel, purpose int, do func(j job) (int, api.Fault)) (oop int, fault api.Fault) {
	j := job{act.Begin(k.Space(), k.Symbols()), k}
	defer func() {
		if purpose == forTrial {
			j.Back()
		}
		j.End(fault.Code)
	}()
	return do(j)
}

// faulty is an answer whose error has no place in a source.
func faulty(oop int, e api.Errno) (int, api.Fault) {
	return oop, api.Fault{Code: e}
}

// text is a source, and how it is read: as a method's, or as a doit's.
type text struct {
	source string
	read   func(source string) (api.Source, api.Fault)
}

// made is the code of a source, and the word that its method has for a selector.
type made struct {
	api.Code
	selector api.Word
}

// compile is a method of a class.
func compile(k *class.Kernel, class int, t text) (int, api.Fault) {
	fields, e := k.Fields(class)
	if e != api.OK {
		return 0, api.Fault{Code: e}
	}
	return whole(k, toStay, func(j job) (int, api.Fault) {
		code, fault := j.make(t, fields)
		if fault.Code != api.OK {
			return 0, fault
		}
		return faulty(j.lay(class, t.source, code))
	})
}

// make is the code of a source with some fields.
func (j job) make(t text, fields []string) (made, api.Fault) {
	tree, fault := t.read(t.source)
	if fault.Code != api.OK {
		return made{}, fault
	}
	scoped, fault := scope.Resolve(tree, j.names(fields))
	if fault.Code != api.OK {
		return made{}, fault
	}
	selector, e := j.selector(tree.Selector)
	if e != api.OK {
		return made{}, api.Fault{Code: e, At: tree.At}
	}
	code, fault := gen.Make(scoped, j.kernel.Symbols())
	if fault.Code != api.OK {
		return made{}, fault
	}
	return made{code, selector}, api.Fault{}
}

// names is what the names of a method with some fields may mean.
func (j job) names(fields []string) api.Names {
	names := api.Names{Fields: fields, Globals: j.kernel.Globals()}
	for i := range j.kernel.Count() {
		oop, _ := j.kernel.Numbered(i + 1)
		info, _ := j.kernel.Info(oop)
		names.Classes = append(names.Classes, info.Name)
	}
	return names
}

// selector is the word for a selector; a doit, whose selector is "", has nil.
func (j job) selector(text string) (api.Word, api.Errno) {
	if text == "" {
		return word.Object(api.Nil)
	}
	called, e := j.Symbols(text)
	if e != api.OK {
		return 0, e
	}
	return called[0], api.OK
}
