package proc

import (
	"kiln/api"
	"kiln/class"
	"kiln/context"
	"kiln/dict"
	"kiln/object"
	"kiln/step"
	"kiln/word"
)

// processes is the Array of them; the first has the number 1.
func processes(k *class.Kernel) object.Object {
	return object.Of(k, k.Space().Crowned()).ObjectAt(api.RootProcesses)
}

// ready is a process that is ready.
type ready struct {
	object.Object // the Process
	kernel        *class.Kernel
	number        int
}

// find is the process of that number, if it is ready.
func find(k *class.Kernel, process int) (ready, api.Errno) {
	if k.Space() == nil {
		return ready{}, api.ErrNil
	}
	p := ready{processes(k).ObjectAt(process - 1), k, process}
	if !p.formed() {
		return ready{}, api.ErrProcess
	}
	return p, api.OK
}

// formed tells whether an object has the form of a Process.
func (p ready) formed() bool {
	if !p.Is(api.Process, api.FormatWords) || p.Size() != api.ProcessSlots {
		return false
	}
	_, e := context.Info(p.kernel, p.top())
	return e == api.OK
}

// top is its top context.
func (p ready) top() int { return p.ObjectAt(api.ProcessTop).Oop() }

// run lets it go on, unless something that it stands on is stale.
func (p ready) run(b *dict.Book, fuel int) api.Ran {
	if anyStale(p.kernel, p.top()) {
		return api.Ran{State: api.Failed, Code: api.ErrStale}
	}
	return step.Go(p.kernel, b, p.Oop(), fuel)
}

// cut lets none of its contexts have a sender any more: a block that was written
// in one of them holds no other that waited for it.
func (p ready) cut() {
	for c, e := range chain(p.kernel, p.top()) {
		if e == api.OK {
			context.Cut(p.kernel, c)
		}
	}
}

// over lets it be ready no more: its cell says by what it has failed; OK says that it has ended.
func (p ready) over(code api.Errno) {
	w, _ := word.Int(int(code))
	processes(p.kernel).Put(p.number-1, w)
}
