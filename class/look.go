package class

import (
	"slices"

	"kiln/api"
	"kiln/word"
)

// rooted is the object that one of the root's slots names.
func (k *Kernel) rooted(slot int) thing {
	return thing{k, k.Space().Crowned()}.thingAt(slot)
}

// class is the class of that oop.
func (k *Kernel) class(oop int) (thing, api.Errno) {
	if !k.made() {
		return thing{}, api.ErrNil
	}
	c := thing{k, oop}
	// A class stands at its number's place, so that none is to be searched for.
	if there, e := k.Numbered(c.number()); e != api.OK || there != oop {
		return thing{}, api.ErrClass
	}
	return c, api.OK
}

func (t thing) number() int { return t.numberAt(api.ClassNumber) }

func (t thing) above() thing { return t.thingAt(api.ClassSuper) }

func (t thing) own() []string { return t.thingAt(api.ClassOwn).texts() }

// fields is all fields of a class's instances, those of its superclass first.
func (t thing) fields() []string {
	up := t.above()
	// A superclass has a lower number than each class below it, and nil has
	// none: so the way up ends, whatever a space holds that no kernel made.
	if up.number() < 1 || up.number() >= t.number() {
		return t.own()
	}
	return append(up.fields(), t.own()...)
}

// Find is the oop of the class of that name.
func (k *Kernel) Find(name string) (int, api.Errno) {
	if !k.made() {
		return 0, api.ErrNil
	}
	w, there := k.symbol(name)
	if !there {
		return 0, api.ErrClass
	}
	all := k.rooted(api.RootClasses)
	for i := range all.size() {
		if c := all.thingAt(i); c.at(api.ClassName) == w {
			return c.oop, api.OK
		}
	}
	return 0, api.ErrClass
}

// symbol is the word of a text's symbol, if there is one.
func (k *Kernel) symbol(text string) (api.Word, bool) {
	n, there := k.symbols.Find(text)
	if !there {
		return 0, false
	}
	w, e := word.Symbol(n)
	return w, e == api.OK
}

// Numbered is the oop of the class of that number, from 1 on.
func (k *Kernel) Numbered(n int) (int, api.Errno) {
	if !k.made() {
		return 0, api.ErrNil
	}
	all := k.rooted(api.RootClasses)
	if n < 1 || n > all.size() {
		return 0, api.ErrClass
	}
	return all.thingAt(n - 1).oop, api.OK
}

// Of is the oop of a word's class.
func (k *Kernel) Of(w api.Word) (int, api.Errno) {
	if !k.made() {
		return 0, api.ErrNil
	}
	switch word.Kind(w) {
	case word.KindInt:
		return api.Integer, api.OK
	case word.KindSymbol:
		return api.Symbol, api.OK
	}
	oop, e := word.Oop(w)
	if e != api.OK {
		return 0, e
	}
	c, e := k.space.Heap().Class(oop)
	if e != api.OK {
		return 0, e
	}
	return word.Oop(c)
}

// Count is how many classes there are.
func (k *Kernel) Count() int {
	if !k.made() {
		return 0
	}
	return k.rooted(api.RootClasses).size()
}

// Info is a class as data.
func (k *Kernel) Info(class int) (api.ClassInfo, api.Errno) {
	c, e := k.class(class)
	if e != api.OK {
		return api.ClassInfo{}, e
	}
	return api.ClassInfo{
		Name:   c.textAt(api.ClassName),
		Super:  c.above().textAt(api.ClassName),
		Own:    c.own(),
		Layout: c.numberAt(api.ClassLayout),
	}, api.OK
}

// Number is a class's number.
func (k *Kernel) Number(class int) (int, api.Errno) {
	c, e := k.class(class)
	if e != api.OK {
		return 0, e
	}
	return c.number(), api.OK
}

// Super is the oop of the superclass; 0: there is none.
func (k *Kernel) Super(class int) (int, api.Errno) {
	c, e := k.class(class)
	if e != api.OK {
		return 0, e
	}
	up := c.above().oop
	if up == api.Nil {
		return 0, api.OK
	}
	return up, api.OK
}

// Fields is all fields of an instance.
func (k *Kernel) Fields(class int) ([]string, api.Errno) {
	c, e := k.class(class)
	if e != api.OK {
		return nil, e
	}
	return c.fields(), api.OK
}

// Layout is a class's layout number.
func (k *Kernel) Layout(class int) (int, api.Errno) {
	c, e := k.class(class)
	if e != api.OK {
		return 0, e
	}
	return c.numberAt(api.ClassLayout), api.OK
}

// Under is the numbers of the class and all its descendants, rising.
func (k *Kernel) Under(class int) []int {
	c, e := k.class(class)
	if e != api.OK {
		return nil
	}
	list := []int{c.number()}
	all := k.rooted(api.RootClasses)
	// Descendants stand behind the class, each behind its superclass.
	for n := c.number() + 1; n <= all.size(); n++ {
		if slices.Contains(list, all.thingAt(n-1).above().number()) {
			list = append(list, n)
		}
	}
	return list
}
