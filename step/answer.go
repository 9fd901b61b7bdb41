package step

import (
	"slices"

	"kiln/api"
	"kiln/context"
	"kiln/word"
)

// answer gives the top cell to the sender of the top context.
func (r *runner) answer() api.Errno { return r.leave(r.top.Oop()) }

// answerHome gives it to the sender of the method's context in which the block was written.
func (r *runner) answerHome() api.Errno {
	home, e := context.Home(r.kernel, r.top.Oop())
	if e != api.OK {
		return e
	}
	chain, e := context.Chain(r.kernel, r.top.Oop())
	if e != api.OK {
		return e
	}
	place := slices.Index(chain, home)
	if place < 0 {
		return api.ErrHome
	}
	return r.leave(chain[:place+1]...)
}

// leave leaves some contexts, from the top one down, and gives the top cell to
// the sender of the last of them. Without a sender the process ends with it.
func (r *runner) leave(contexts ...int) api.Errno {
	value, e := r.peek(0)
	if e != api.OK {
		return e
	}
	last, e := context.Info(r.kernel, contexts[len(contexts)-1])
	if e != api.OK {
		return e
	}
	if last.Sender == named(api.Nil) {
		r.cut(contexts)
		r.value = value
		return api.OK
	}
	sender, _ := word.Oop(last.Sender)
	if e = r.hasCell(sender); e != api.OK {
		return e
	}
	r.cut(contexts)
	if e = r.enter(sender); e != api.OK {
		return e
	}
	return r.push(value)
}

// cut takes the value off the top context's stack, and leaves the contexts.
func (r *runner) cut(contexts []int) {
	r.drop(1)
	for _, c := range contexts {
		context.Cut(r.kernel, c)
	}
}

// hasCell refuses what is no context, and one whose stack is full: so what
// pushes last can look ahead, and change nothing where it fails.
func (r *runner) hasCell(oop int) api.Errno {
	x, e := context.Info(r.kernel, oop)
	if e == api.OK && x.Top == x.Stack {
		return api.ErrContext
	}
	return e
}
