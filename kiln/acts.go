package kiln

import (
	"kiln/act"
	"kiln/api"
	"kiln/image"
	"kiln/inspect"
	"kiln/method"
	"kiln/proc"
	"kiln/reshape"
)

// doing is how a machine does the acts of a kind.
func doing(kind int) (func(*Machine, api.Act) api.Answer, bool) {
	acts := [...]func(*Machine, api.Act) api.Answer{
		api.ActClass:   (*Machine).defineClass,
		api.ActMethod:  (*Machine).defineMethod,
		api.ActRemove:  (*Machine).removeMethod,
		api.ActGlobal:  (*Machine).defineGlobal,
		api.ActSpawn:   (*Machine).spawn,
		api.ActRun:     (*Machine).run,
		api.ActReshape: (*Machine).reshape,
		api.ActCollect: (*Machine).collect,
		api.ActInspect: (*Machine).inspect,
		api.ActMark:    (*Machine).mark,
		api.ActSave:    (*Machine).save,
		api.ActLoad:    (*Machine).load,
	}
	if kind < 0 || kind >= len(acts) || acts[kind] == nil {
		return nil, false
	}
	return acts[kind], true
}

// refused is the answer of what an error alone is told; OK: nothing is.
func refused(e api.Errno) api.Answer {
	return api.Answer{Refusal: api.Refusal{Code: e}}
}

// numbered is a number, or the error for which there is none.
func numbered(n int, fault api.Fault) api.Answer {
	if fault.Code != api.OK {
		return api.Answer{Refusal: api.Refusal{Code: fault.Code, At: fault.At}}
	}
	return api.Answer{Number: n}
}

func (m *Machine) defineClass(a api.Act) api.Answer {
	oop, e := m.kernel.Define(a.Name, a.Other, a.Names)
	if e != api.OK {
		return refused(e)
	}
	n, e := m.kernel.Number(oop)
	return numbered(n, api.Fault{Code: e})
}

func (m *Machine) defineMethod(a api.Act) api.Answer {
	class, e := m.kernel.Find(a.Name)
	if e != api.OK {
		return refused(e)
	}
	if isClosed(class) {
		return refused(api.ErrKernel)
	}
	// To compile and to lay into the class are one act: where the second is
	// refused, what the first added is given back, too.
	whole := act.Begin(m.kernel.Space(), m.kernel.Symbols())
	selector, fault := m.layMethod(class, a.Text)
	if whole.End(fault.Code) != api.OK {
		return numbered(0, fault)
	}
	return api.Answer{Refusal: api.Refusal{Selector: selector}}
}

// isClosed tells whether a class takes no methods: the kernel reads its
// instances by itself.
func isClosed(class int) bool {
	switch class {
	case api.Class, api.Method, api.Context, api.Process, api.Message:
		return true
	}
	return false
}

// layMethod makes a method of a source, and lays it into a class; its selector.
func (m *Machine) layMethod(class int, source string) (string, api.Fault) {
	oop, fault := method.Compile(m.kernel, class, source)
	if fault.Code != api.OK {
		return "", fault
	}
	info, e := method.Info(m.kernel, oop)
	if e != api.OK {
		return "", api.Fault{Code: e}
	}
	return info.Selector, api.Fault{Code: m.book.Put(class, info.Selector, oop)}
}

func (m *Machine) removeMethod(a api.Act) api.Answer {
	class, e := m.kernel.Find(a.Name)
	if e != api.OK {
		return refused(e)
	}
	whole := act.Begin(m.kernel.Space(), m.kernel.Symbols())
	return refused(whole.End(m.book.Remove(class, a.Other)))
}

func (m *Machine) defineGlobal(a api.Act) api.Answer {
	place := len(m.kernel.Globals())
	return numbered(place, api.Fault{Code: m.kernel.Global(a.Name)})
}

func (m *Machine) spawn(a api.Act) api.Answer {
	return numbered(proc.Spawn(m.kernel, a.Text))
}

func (m *Machine) run(a api.Act) api.Answer {
	ran, e := proc.Run(m.kernel, m.book, a.Number, a.Fuel)
	if e != api.OK {
		return refused(e)
	}
	answer := api.Answer{
		Refusal: api.Refusal{Code: ran.Code, Selector: ran.Selector},
		Number:  a.Number,
		State:   ran.State,
		Used:    ran.Used,
	}
	if ran.State == api.Ended {
		// Nothing keeps the value any more, but nothing is allocated either.
		answer.Text, answer.Code = inspect.Value(m.kernel, ran.Value)
	}
	return answer
}

func (m *Machine) reshape(a api.Act) api.Answer {
	return api.Answer{Refusal: reshape.Do(m.kernel, m.book, a.Name, a.Names)}
}

func (m *Machine) collect(api.Act) api.Answer {
	_, _, e := m.kernel.Space().Collect()
	return refused(e)
}

func (m *Machine) inspect(api.Act) api.Answer {
	text, e := inspect.Text(m.kernel)
	return api.Answer{Refusal: api.Refusal{Code: e}, Text: text}
}

// mark is refused by the heap, too, for what is no mark.
func (m *Machine) mark(a api.Act) api.Answer {
	return refused(m.kernel.Space().Heap().Mark(a.Number))
}

func (m *Machine) save(api.Act) api.Answer {
	text, e := image.Save(m.kernel)
	if e != api.OK {
		return refused(e)
	}
	m.saved = text
	return api.Answer{Number: len(text)}
}

func (m *Machine) load(a api.Act) api.Answer {
	text := a.Text
	if text == "" {
		// Where nothing was saved it is "" again, which is no image.
		text = m.saved
	}
	k, e := image.Load(text)
	if e != api.OK {
		return refused(e)
	}
	return refused(m.take(k))
}
