package class

import (
	"kiln/api"
	"kiln/word"
)

// thing is an object whose slots are read. Where nothing is to be read, in a
// space that no kernel made, it reads zeros: the object 0 is none, and has no
// slots.
type thing struct {
	*Kernel
	oop int
}

func (t thing) at(i int) api.Word {
	w, _ := t.Space().Heap().At(t.oop, i)
	return w
}

func (t thing) size() int {
	n, _, _ := t.Space().Heap().Size(t.oop)
	return n
}

func (t thing) words() []api.Word {
	var list []api.Word
	for i := range t.size() {
		list = append(list, t.at(i))
	}
	return list
}

func (t thing) thingAt(i int) thing {
	oop, _ := word.Oop(t.at(i))
	return thing{t.Kernel, oop}
}

func (t thing) numberAt(i int) int {
	n, _ := word.Num(t.at(i))
	return n
}

func (t thing) textAt(i int) string {
	n, e := word.Sym(t.at(i))
	if e != api.OK {
		return ""
	}
	text, _ := t.Symbols().Text(n)
	return text
}

// texts is the texts of all slots.
func (t thing) texts() []string {
	var list []string
	for i := range t.size() {
		list = append(list, t.textAt(i))
	}
	return list
}
