package proc

import (
	"kiln/act"
	"kiln/api"
	"kiln/class"
	"kiln/context"
	"kiln/method"
	"kiln/word"
)

// spawning is an act that makes a process.
type spawning struct {
	*act.Act
	kernel *class.Kernel
}

// process makes a process of a source; its number.
func (s spawning) process(source string) (int, api.Fault) {
	m, fault := method.Doit(s.kernel, source)
	if fault.Code != api.OK {
		return 0, fault
	}
	n, e := s.enrol(m)
	return n, api.Fault{Code: e}
}

// enrol makes a process that begins with a method, the last one of all.
func (s spawning) enrol(m int) (int, api.Errno) {
	c, e := s.context(m)
	if e != api.OK {
		return 0, e
	}
	p, e := s.Make(api.Process, c)
	if e != api.OK {
		return 0, e
	}
	list := append(processes(s.kernel).Words(), p)
	all, e := s.Array(list...)
	if e != api.OK {
		return 0, e
	}
	if e = s.kernel.Space().SetRoot(api.RootProcesses, all); e != api.OK {
		return 0, e
	}
	return len(list), api.OK
}

// context makes the context in which a method begins, for nil, and for whose answer nobody waits.
func (s spawning) context(m int) (api.Word, api.Errno) {
	runs, e := s.held(m)
	if e != api.OK {
		return 0, e
	}
	info, e := method.Info(s.kernel, m)
	if e != api.OK {
		return 0, e
	}
	c, e := context.New(s.kernel, api.ContextInfo{
		Sender:   none(),
		Method:   runs,
		Receiver: none(),
		Outer:    none(),
		Temps:    info.Temps,
		Stack:    info.Stack,
	}, nil)
	if e != api.OK {
		return 0, e
	}
	return s.held(c)
}

// held is the word of what was made; it is kept until the act ends.
func (s spawning) held(oop int) (api.Word, api.Errno) {
	w, e := word.Object(oop)
	if e != api.OK {
		return 0, e
	}
	if e = s.Keep(w); e != api.OK {
		return 0, e
	}
	return w, api.OK
}

// none is nil's word.
func none() api.Word {
	w, _ := word.Object(api.Nil)
	return w
}
