package class

import (
	"kiln/act"
	"kiln/api"
)

// pair is the slots of one global: its name, its value.
const pair = 2

// globals is the Array of globals, and how many there are.
func (k *Kernel) globals() (thing, int) {
	all := k.rooted(api.RootGlobals)
	return all, all.size() / pair
}

func (k *Kernel) hasGlobal(name string) bool {
	w, there := k.symbol(name)
	all, n := k.globals()
	for i := range n {
		if there && all.at(pair*i) == w {
			return true
		}
	}
	return false
}

// Global makes a global variable.
func (k *Kernel) Global(name string) api.Errno {
	if !k.made() {
		return api.ErrNil
	}
	if e := k.mayName(name); e != api.OK {
		return e
	}
	all, n := k.globals()
	if n >= api.MaxGlobals {
		return api.ErrCount
	}
	a := act.Begin(k.space, k.symbols)
	called, e := a.Symbols(name)
	if e != api.OK {
		return a.End(e)
	}
	list := append(all.words(), called[0], object(api.Nil))
	return a.End(k.setRooted(a, api.RootGlobals, list))
}

// Globals is the names of all globals, in the order of definition.
func (k *Kernel) Globals() []string {
	if !k.made() {
		return nil
	}
	all, n := k.globals()
	var list []string
	for i := range n {
		list = append(list, all.textAt(pair*i))
	}
	return list
}

// value is the Array of globals, and the slot in it of the value of that place.
func (k *Kernel) value(i int) (int, int, api.Errno) {
	if !k.made() {
		return 0, 0, api.ErrNil
	}
	all, n := k.globals()
	if i < 0 || i >= n {
		return 0, 0, api.ErrArg
	}
	return all.oop, pair*i + 1, api.OK
}

// Value is a global's value, by its place.
func (k *Kernel) Value(i int) (api.Word, api.Errno) {
	all, slot, e := k.value(i)
	if e != api.OK {
		return 0, e
	}
	return k.space.Heap().At(all, slot)
}

// SetValue stores to it.
func (k *Kernel) SetValue(i int, w api.Word) api.Errno {
	all, slot, e := k.value(i)
	if e != api.OK {
		return e
	}
	return k.space.Heap().Put(all, slot, w)
}
