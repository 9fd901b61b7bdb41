// Package object: a kernel's objects, their slots read as what they hold.
package object

import (
	"kiln/api"
	"kiln/class"
	"kiln/word"
)

// Object is an object of a kernel. Where nothing is to be read, in a space that
// no kernel made, it reads zeros: the object 0 is none, and has no slots.
type Object struct {
	kernel *class.Kernel
	oop    int
}

// Of is the object of that oop.
func Of(k *class.Kernel, oop int) Object { return Object{k, oop} }

// Oop is the object's number.
func (o Object) Oop() int { return o.oop }

// Word is the word that names the object, if it is there.
func (o Object) Word() (api.Word, api.Errno) {
	if _, e := o.kernel.Space().Heap().Class(o.oop); e != api.OK {
		return 0, e
	}
	return word.Object(o.oop)
}

// Size is how many slots it has.
func (o Object) Size() int {
	n, _, _ := o.kernel.Space().Heap().Size(o.oop)
	return n
}

// Format is that of its slots.
func (o Object) Format() int {
	_, format, _ := o.kernel.Space().Heap().Size(o.oop)
	return format
}

// Class is the object that its class names.
func (o Object) Class() Object {
	c, _ := o.kernel.Space().Heap().Class(o.oop)
	oop, _ := word.Oop(c)
	return Object{o.kernel, oop}
}

// Is tells whether it is there, and of that class and format. The kernel's
// classes are known by their oops.
func (o Object) Is(class, format int) bool {
	c, e := o.kernel.Space().Heap().Class(o.oop)
	if e != api.OK {
		return false
	}
	of, e := word.Oop(c)
	return e == api.OK && of == class && o.Format() == format
}

// At is what a slot holds.
func (o Object) At(i int) api.Word {
	w, _ := o.kernel.Space().Heap().At(o.oop, i)
	return w
}

// ValueAt is what a slot holds, a byte as the integer that it is.
func (o Object) ValueAt(i int) api.Word {
	w, e := o.kernel.Space().Heap().At(o.oop, i)
	if e == api.OK && o.Format() == api.FormatBytes {
		w, _ = word.Int(int(w))
	}
	return w
}

// Put stores to a slot.
func (o Object) Put(i int, w api.Word) api.Errno {
	return o.kernel.Space().Heap().Put(o.oop, i, w)
}

// ObjectAt is the object that a slot names.
func (o Object) ObjectAt(i int) Object {
	oop, _ := word.Oop(o.At(i))
	return Object{o.kernel, oop}
}

// NumberAt is the number that a slot holds; 0: it holds none.
func (o Object) NumberAt(i int) int {
	n, _ := word.Num(o.At(i))
	return n
}

// TextAt is the text of the symbol that a slot holds; "", which is no symbol's: it holds none.
func (o Object) TextAt(i int) string {
	n, e := word.Sym(o.At(i))
	if e != api.OK {
		return ""
	}
	text, _ := o.kernel.Symbols().Text(n)
	return text
}

// Words is what all slots hold.
func (o Object) Words() []api.Word {
	list := make([]api.Word, o.Size())
	for i := range list {
		list[i] = o.At(i)
	}
	return list
}

// Numbers is the numbers that all slots hold.
func (o Object) Numbers() []int {
	list := make([]int, o.Size())
	for i := range list {
		list[i] = o.NumberAt(i)
	}
	return list
}

// Bytes is the text of an object of bytes.
func (o Object) Bytes() string {
	list := make([]byte, o.Size())
	for i := range list {
		list[i] = byte(o.At(i))
	}
	return string(list)
}
