package step

import (
	"kiln/api"
	"kiln/context"
	"kiln/word"
)

// jump lets the top context go on so many words behind the instruction.
func (r *runner) jump(words int) api.Errno {
	return context.Go(r.kernel, r.top.Oop(), r.behind+words)
}

func (r *runner) on() api.Errno { return r.jump(r.operands[0]) }

func (r *runner) back() api.Errno { return r.jump(-r.operands[0]) }

// jumps is what pops a boolean, and jumps if it is the wanted one.
func jumps(wanted, other int) func(r *runner) api.Errno {
	return func(r *runner) api.Errno {
		w, e := r.peek(0)
		if e != api.OK {
			return e
		}
		if w != named(wanted) && w != named(other) {
			return api.ErrBool
		}
		r.drop(1)
		if w == named(wanted) {
			return r.on()
		}
		return api.OK
	}
}

// firstRound begins a loop from a number to another one, or goes behind it.
func (r *runner) firstRound() api.Errno {
	a, e := r.peek(1)
	if e != api.OK {
		return e
	}
	b, e := r.peek(0)
	if e != api.OK {
		return e
	}
	from, to, e := numbers(a, b)
	if e != api.OK {
		return e
	}
	if e = r.setVariable(a); e != api.OK {
		return e
	}
	r.drop(2)
	if from > to {
		return r.jump(r.operands[1])
	}
	return r.push(b)
}

// nextRound goes back into a loop, or ends it behind its last round.
func (r *runner) nextRound() api.Errno {
	now, last, e := r.round()
	if e != api.OK {
		return e
	}
	if now == last {
		return r.pop()
	}
	n, e := word.Add(now, 1)
	if e != api.OK {
		return e
	}
	w, e := word.Int(n)
	if e != api.OK {
		return e
	}
	if e = r.setVariable(w); e != api.OK {
		return e
	}
	return r.jump(-r.operands[1])
}

// goesRound tells whether there is one more round: to end a loop is no event, nor to fail.
func (r *runner) goesRound() bool {
	now, last, e := r.round()
	return e == api.OK && now != last
}

// round is the number of a loop's variable, and the one of its last round.
func (r *runner) round() (now, last int, e api.Errno) {
	variable, e := context.Temp(r.kernel, r.top.Oop(), 0, r.operands[0])
	if e != api.OK {
		return 0, 0, e
	}
	cell, e := r.peek(0)
	if e != api.OK {
		return 0, 0, e
	}
	return numbers(variable, cell)
}

func (r *runner) setVariable(w api.Word) api.Errno {
	return context.SetTemp(r.kernel, r.top.Oop(), 0, r.operands[0], w)
}

// numbers is the numbers of two words, both of which must be integers.
func numbers(a, b api.Word) (int, int, api.Errno) {
	x, e := word.Num(a)
	if e != api.OK {
		return 0, 0, api.ErrPrim
	}
	y, e := word.Num(b)
	if e != api.OK {
		return 0, 0, api.ErrPrim
	}
	return x, y, api.OK
}
