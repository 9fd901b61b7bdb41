package class

import (
	"kiln/act"
	"kiln/api"
	"kiln/name"
	"kiln/word"
)

// Define makes a class.
func (k *Kernel) Define(name, super string, own []string) (int, api.Errno) {
	if !k.made() {
		return 0, api.ErrNil
	}
	above, e := k.mayDefine(name, super, own)
	if e != api.OK {
		return 0, e
	}
	a := act.Begin(k.space, k.symbols)
	oop, e := k.define(a, name, above, own)
	return oop, a.End(e)
}

// mayDefine is the superclass of the class that is to be defined.
func (k *Kernel) mayDefine(name, super string, own []string) (thing, api.Errno) {
	if e := k.mayName(name); e != api.OK {
		return thing{}, e
	}
	oop, e := k.Find(super)
	if e != api.OK {
		return thing{}, e
	}
	above := thing{k, oop}
	if oop != api.Object && above.number() <= api.KernelClasses {
		return thing{}, api.ErrKernel
	}
	if e := mayOwn(above.fields(), own); e != api.OK {
		return thing{}, e
	}
	if k.Count() >= api.MaxClasses {
		return thing{}, api.ErrCount
	}
	return above, api.OK
}

// mayName tells whether a new class or global may be called so.
func (k *Kernel) mayName(s string) api.Errno {
	if !name.Class(s) {
		return api.ErrName
	}
	if _, e := k.Find(s); e == api.OK || k.hasGlobal(s) {
		return api.ErrThere
	}
	return api.OK
}

// mayOwn tells whether a class may have these names beside the fields of its superclass.
func mayOwn(inherited, own []string) api.Errno {
	taken := map[string]api.Errno{}
	for _, s := range inherited {
		taken[s] = api.ErrInherited
	}
	for _, s := range own {
		if !name.Field(s) {
			return api.ErrName
		}
		if e := taken[s]; e != api.OK {
			return e
		}
		taken[s] = api.ErrDouble
	}
	if len(inherited)+len(own) > api.MaxFields {
		return api.ErrFields
	}
	return api.OK
}

// define makes the class, which nothing stands against any more but the want of room.
func (k *Kernel) define(a *act.Act, name string, above thing, own []string) (int, api.Errno) {
	called, e := a.Symbols(name)
	if e != api.OK {
		return 0, e
	}
	names, e := a.Symbols(own...)
	if e != api.OK {
		return 0, e
	}
	list, e := a.Array(names...)
	if e != api.OK {
		return 0, e
	}
	all := k.rooted(api.RootClasses).words()
	w, e := a.Make(api.Class, newClass(called[0], object(above.oop), list, len(all)+1)...)
	if e != api.OK {
		return 0, e
	}
	if e = k.setRooted(a, api.RootClasses, append(all, w)); e != api.OK {
		return 0, e
	}
	return word.Oop(w)
}

// setRooted makes an Array and lets one of the root's slots name it.
func (k *Kernel) setRooted(a *act.Act, slot int, list []api.Word) api.Errno {
	w, e := a.Array(list...)
	if e != api.OK {
		return e
	}
	return k.space.SetRoot(slot, w)
}
