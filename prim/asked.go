package prim

import (
	"kiln/api"
	"kiln/class"
	"kiln/object"
	"kiln/word"
)

// asked is what a primitive is asked: of which receiver, by which arguments.
// All of them are what the primitive takes.
type asked struct {
	kernel   *class.Kernel
	receiver api.Word
	args     []api.Word
}

func (a asked) x() api.Word { return a.args[0] }

func (a asked) y() api.Word { return a.args[1] }

// object is the receiver.
func (a asked) object() object.Object { return named(a.kernel, a.receiver) }

// class is the oop of the receiver's class.
func (a asked) class() int {
	c, _ := a.kernel.Of(a.receiver)
	return c
}

// named is the object that a word names.
func named(k *class.Kernel, w api.Word) object.Object {
	oop, _ := word.Oop(w)
	return object.Of(k, oop)
}

// number is the number of an integer.
func number(w api.Word) int {
	n, _ := word.Num(w)
	return n
}

// fixed is the word of one of the kernel's objects, whose oops are so.
func fixed(oop int) api.Word {
	w, _ := word.Object(oop)
	return w
}

// truth is the word of a boolean.
func truth(is bool) api.Word {
	if is {
		return fixed(api.True)
	}
	return fixed(api.False)
}

// tells answers by what a question comes to.
func tells(is func(a asked) bool) answer {
	return func(a asked) (api.Word, api.Errno) { return truth(is(a)), api.OK }
}

// counts answers a number.
func counts(many func(a asked) int) answer {
	return func(a asked) (api.Word, api.Errno) { return word.Int(many(a)) }
}
