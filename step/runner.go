package step

import (
	"kiln/api"
	"kiln/class"
	"kiln/context"
	"kiln/dict"
	"kiln/object"
	"kiln/word"
)

// mostOperands is how many operands an instruction may have.
const mostOperands = 3

// mostQuiet is how many instructions may be done without an event among them:
// code that was compiled only goes on forwards there, in each context of a
// chain. What does more of them would never come to an end.
const mostQuiet = api.MaxContexts * api.MaxCode

// runner is a process that goes on.
type runner struct {
	kernel  *class.Kernel
	book    *dict.Book
	process object.Object
	top     object.Object // its top context
	table   table

	operands [mostOperands]int // of the instruction that is next, or is done now
	behind   int               // the place behind it

	value   api.Word // what the process has ended with; 0, which is no word: it has not
	unknown string   // the selector that was not understood
}

// find is the process of that oop.
func find(k *class.Kernel, b *dict.Book, process int) (*runner, api.Errno) {
	p := object.Of(k, process)
	if !p.Is(api.Process, api.FormatWords) || p.Size() != api.ProcessSlots {
		return nil, api.ErrContext
	}
	top := p.ObjectAt(api.ProcessTop)
	if _, e := context.Info(k, top.Oop()); e != api.OK {
		return nil, e
	}
	return &runner{kernel: k, book: b, process: p, top: top, table: instructions()}, api.OK
}

// run lets the process go on until it ends, or fails, or has no fuel for the
// event that is next.
func (r *runner) run(fuel int) api.Ran {
	ran, quiet := api.Ran{}, 0
going:
	for {
		i, there := r.next()
		if !there || quiet == mostQuiet {
			ran.State, ran.Code = api.Failed, api.ErrContext
			break going
		}
		quiet++
		if r.isEvent(i) {
			if ran.Used >= fuel {
				ran.State = api.Ready
				break going
			}
			ran.Used++
			quiet = 0
		}
		switch e := r.do(i); {
		case e != api.OK:
			ran.State, ran.Code, ran.Selector = api.Failed, e, r.unknown
			break going
		case r.value != 0:
			ran.State, ran.Value = api.Ended, r.value
			break going
		default:
			continue going
		}
	}
	return ran
}

// next is the instruction that is next, if there is one: its operands are read.
func (r *runner) next() (instruction, bool) {
	code, pc := r.method().ObjectAt(api.MethodCode), r.top.NumberAt(api.ContextPc)
	i := r.table.at(code.NumberAt(pc))
	r.behind = pc + 1 + i.operands
	if i.do == nil || r.behind > code.Size() {
		return instruction{}, false
	}
	for n := range i.operands {
		r.operands[n] = code.NumberAt(pc + 1 + n)
	}
	return i, true
}

// do does the instruction that was next. The pc goes behind it first: so it
// stands there, too, where the process fails by it.
func (r *runner) do(i instruction) api.Errno {
	if e := r.jump(0); e != api.OK {
		return e
	}
	return i.do(r)
}

// method is that of the top context.
func (r *runner) method() object.Object { return r.top.ObjectAt(api.ContextMethod) }

// receiver is that of the top context.
func (r *runner) receiver() object.Object { return r.top.ObjectAt(api.ContextReceiver) }

// enter makes another context the top one.
func (r *runner) enter(context int) api.Errno {
	r.top = object.Of(r.kernel, context)
	return r.process.Put(api.ProcessTop, named(context))
}

func (r *runner) push(w api.Word) api.Errno { return context.Push(r.kernel, r.top.Oop(), w) }

// pushed pushes what was answered, if it was.
func (r *runner) pushed(w api.Word, e api.Errno) api.Errno {
	if e != api.OK {
		return e
	}
	return r.push(w)
}

// peek is a cell of the stack, counted from the top, which is 0.
func (r *runner) peek(back int) (api.Word, api.Errno) {
	return context.Peek(r.kernel, r.top.Oop(), back)
}

// drop pops n cells, which are there.
func (r *runner) drop(n int) {
	for range n {
		context.Pop(r.kernel, r.top.Oop())
	}
}

// named is the word of an object that is there.
func named(oop int) api.Word {
	w, _ := word.Object(oop)
	return w
}
