package step

import (
	"kiln/api"
	"kiln/context"
	"kiln/word"
)

// pushes is what pushes one of the kernel's objects.
func pushes(oop int) func(r *runner) api.Errno {
	return func(r *runner) api.Errno { return r.push(named(oop)) }
}

func (r *runner) self() api.Errno { return r.push(r.top.At(api.ContextReceiver)) }

func (r *runner) integer() api.Errno { return r.pushed(word.Int(r.operands[0])) }

func (r *runner) literal() api.Errno {
	return r.push(r.method().ObjectAt(api.MethodLiterals).At(r.operands[0]))
}

func (r *runner) symbol() api.Errno { return r.pushed(word.Symbol(r.operands[0])) }

func (r *runner) class() api.Errno {
	oop, e := r.kernel.Numbered(r.operands[0])
	if e != api.OK {
		return e
	}
	return r.push(named(oop))
}

func (r *runner) field() api.Errno { return r.push(r.receiver().At(r.operands[0])) }

func (r *runner) temp() api.Errno {
	return r.pushed(context.Temp(r.kernel, r.top.Oop(), r.operands[0], r.operands[1]))
}

func (r *runner) global() api.Errno { return r.pushed(r.kernel.Value(r.operands[0])) }

// stores is what stores the top cell, which stays.
func stores(set func(r *runner, w api.Word) api.Errno) func(r *runner) api.Errno {
	return func(r *runner) api.Errno {
		w, e := r.peek(0)
		if e != api.OK {
			return e
		}
		return set(r, w)
	}
}

func (r *runner) setField(w api.Word) api.Errno { return r.receiver().Put(r.operands[0], w) }

func (r *runner) setTemp(w api.Word) api.Errno {
	return context.SetTemp(r.kernel, r.top.Oop(), r.operands[0], r.operands[1], w)
}

func (r *runner) setGlobal(w api.Word) api.Errno { return r.kernel.SetValue(r.operands[0], w) }

func (r *runner) pop() api.Errno {
	_, e := context.Pop(r.kernel, r.top.Oop())
	return e
}

func (r *runner) dup() api.Errno { return r.pushed(r.peek(0)) }

// block makes a block, whose body stands behind the instruction, and goes on behind that.
func (r *runner) block() api.Errno {
	params, slots, words := r.operands[0], r.operands[1], r.operands[2]
	if e := r.hasCell(r.top.Oop()); e != api.OK {
		return e
	}
	oop, e := context.NewBlock(r.kernel, r.top.Oop(), r.behind, params, slots)
	if e != api.OK {
		return e
	}
	if e = r.push(named(oop)); e != api.OK {
		return e
	}
	return r.jump(words)
}
