package prim

import (
	"kiln/api"
	"kiln/object"
	"kiln/word"
)

func ofArray() map[string]primitive {
	return map[string]primitive{
		"size":    {do: counts(asked.slots)},
		"isEmpty": {do: tells(asked.isEmpty)},
		"at:":     {x: isInteger, do: at(asked.slots)},
		"at:put:": {x: isInteger, do: atPut(asked.slots)},
	}
}

// slots is how many the receiver has.
func (a asked) slots() int { return a.object().Size() }

func (a asked) isEmpty() bool { return a.slots() == 0 }

// fields is how many slots the receiver has, if it is an instance.
func (a asked) fields() int {
	if !hasInstances(a.class()) {
		return 0
	}
	return a.slots()
}

// place is the slot that x names, the first being 1, if there are so many.
func (a asked) place(many int) (int, api.Errno) {
	n := number(a.x())
	if n < 1 || n > many {
		return 0, api.ErrIndex
	}
	return n - 1, api.OK
}

// at answers a slot, of so many.
func at(many func(a asked) int) answer {
	return func(a asked) (api.Word, api.Errno) {
		i, e := a.place(many(a))
		if e != api.OK {
			return 0, e
		}
		return a.object().ValueAt(i), api.OK
	}
}

// atPut stores y to a slot, of so many.
func atPut(many func(a asked) int) answer {
	return func(a asked) (api.Word, api.Errno) {
		i, e := a.place(many(a))
		if e != api.OK {
			return 0, e
		}
		if e = store(a.object(), i, a.y()); e != api.OK {
			return 0, e
		}
		return a.y(), api.OK
	}
}

// store lays a word into a slot, of a slot of bytes its number.
func store(o object.Object, i int, w api.Word) api.Errno {
	if o.Format() == api.FormatBytes {
		n, e := word.Num(w)
		if e != api.OK {
			return api.ErrPrim
		}
		w = api.Word(n)
	}
	if o.Put(i, w) != api.OK {
		return api.ErrPrim
	}
	return api.OK
}
