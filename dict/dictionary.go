package dict

import (
	"slices"

	"kiln/act"
	"kiln/api"
	"kiln/class"
	"kiln/object"
)

// dictionary is a class's own methods: its selectors, rising by their texts,
// and its methods in the same order.
type dictionary struct {
	kernel                    *class.Kernel
	class, selectors, methods object.Object
}

// dictionary is that of the class of that oop.
func (b *Book) dictionary(class int) (dictionary, api.Errno) {
	if !b.made() {
		return dictionary{}, api.ErrNil
	}
	if _, e := b.kernel.Number(class); e != api.OK {
		return dictionary{}, e
	}
	c := object.Of(b.kernel, class)
	return dictionary{b.kernel, c, c.ObjectAt(api.ClassSelectors), c.ObjectAt(api.ClassMethods)}, api.OK
}

func (d dictionary) texts() []string {
	var list []string
	for i := range d.selectors.Size() {
		list = append(list, d.selectors.TextAt(i))
	}
	return list
}

// place is where a selector has its place in the order, and whether it stands there.
func (d dictionary) place(selector string) (int, bool) {
	i := first(d.selectors.Size(), func(i int) bool { return d.selectors.TextAt(i) >= selector })
	// No selector is "": the place behind the last one reads so, and a symbol
	// that the table has not any more.
	return i, selector != "" && d.selectors.TextAt(i) == selector
}

// first is the least number from 0 on that is reached, where all behind one
// that is reached are, too; n, if none below n is.
func first(n int, reached func(i int) bool) int {
	low, high := 0, n
	for low < high {
		middle := (low + high) / 2
		if reached(middle) {
			high = middle
		} else {
			low = middle + 1
		}
	}
	return low
}

// at is the method of a selector.
func (d dictionary) at(selector string) (int, api.Errno) {
	i, there := d.place(selector)
	if !there {
		return 0, api.ErrSelector
	}
	return d.methods.ObjectAt(i).Oop(), api.OK
}

// put lays a method in, in the place of the old one, if there is one.
func (d dictionary) put(selector string, method api.Word) api.Errno {
	i, there := d.place(selector)
	if there {
		return d.methods.Put(i, method)
	}
	selectors, methods := d.lists()
	if len(selectors) >= api.MaxMethods {
		return api.ErrCount
	}
	a := act.Begin(d.kernel.Space(), d.kernel.Symbols())
	// To lay a method in is a part of an act: who does the whole of it gives
	// back the mark's count, where it is refused.
	defer a.End(api.OK)
	// Nothing leads to the method yet, and each allocation may collect.
	if e := a.Keep(method); e != api.OK {
		return e
	}
	called, e := a.Symbols(selector)
	if e != api.OK {
		return e
	}
	return d.lay(a, slices.Insert(selectors, i, called[0]), slices.Insert(methods, i, method))
}

// remove takes a method out.
func (d dictionary) remove(selector string) api.Errno {
	i, there := d.place(selector)
	if !there {
		return api.ErrSelector
	}
	selectors, methods := d.lists()
	a := act.Begin(d.kernel.Space(), d.kernel.Symbols())
	defer a.End(api.OK) // as in put
	return d.lay(a, slices.Delete(selectors, i, i+1), slices.Delete(methods, i, i+1))
}

// lists is the words of the selectors, and those of as many methods.
func (d dictionary) lists() ([]api.Word, []api.Word) {
	var selectors, methods []api.Word
	for i := range d.selectors.Size() {
		selectors = append(selectors, d.selectors.At(i))
		methods = append(methods, d.methods.At(i))
	}
	return selectors, methods
}

// lay makes both lists, and only then lets the class name them: so what is
// refused has changed nothing.
func (d dictionary) lay(a *act.Act, selectors, methods []api.Word) api.Errno {
	s, e := a.Array(selectors...)
	if e != api.OK {
		return e
	}
	m, e := a.Array(methods...)
	if e != api.OK {
		return e
	}
	if e = d.class.Put(api.ClassSelectors, s); e != api.OK {
		return e
	}
	return d.class.Put(api.ClassMethods, m)
}
