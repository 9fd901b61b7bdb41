package image

import (
	"kiln/api"
	"kiln/name"
	"kiln/object"
)

// pair is the slots of one global: its name, its value.
const pair = 2

// lookAtClasses: the kernel's classes are the first, and those that were made
// stand behind what they lean on.
func (s *survey) lookAtClasses() {
	all := array(s.root(api.RootClasses))
	demand(within(all.Size(), api.KernelClasses, api.MaxClasses))
	for i := range all.Size() {
		c := all.ObjectAt(i)
		if i < api.KernelClasses {
			demand(c.Oop() == api.Object+i)
		} else {
			s.lookAtClass(c, i+1)
		}
		fields, e := s.kernel.Fields(c.Oop())
		demand(e == api.OK)
		s.fields[c.Oop()] = fields
		s.take(c.TextAt(api.ClassName))
		s.names.Classes = append(s.names.Classes, c.TextAt(api.ClassName))
	}
}

// lookAtClass looks at a class that was made, whose number is n.
func (s *survey) lookAtClass(c object.Object, n int) {
	demand(c.Is(api.Class, api.FormatWords) && c.Size() == api.ClassSlots)
	demandInt(c.At(api.ClassNumber), n, n)
	demandInt(c.At(api.ClassLayout), 0, api.MaxCount)
	demand(name.Class(c.TextAt(api.ClassName)))
	super := c.ObjectAt(api.ClassSuper).Oop()
	above, e := s.kernel.Number(super)
	demand(e == api.OK && above < n && (super == api.Object || above > api.KernelClasses))
	lookAtFields(array(c.ObjectAt(api.ClassOwn)), s.fields[super])
}

// lookAtFields looks at a class's own names beside the fields of its superclass.
func lookAtFields(own object.Object, inherited []string) {
	demand(own.Size()+len(inherited) <= api.MaxFields)
	places := map[string]int{}
	for i, field := range inherited {
		places[field] = i
	}
	for i := range own.Size() {
		field := own.TextAt(i)
		_, twice := places[field]
		demand(!twice && name.Field(field))
		places[field] = len(inherited) + i
	}
}

// take gives a class or a global its name, which no other one has.
func (s *survey) take(name string) {
	_, twice := s.taken[name]
	demand(!twice)
	s.taken[name] = len(s.taken)
}

// lookAtDictionaries: each class's methods are its own, by their selectors.
func (s *survey) lookAtDictionaries() {
	for _, c := range s.ofClass[api.Class] {
		selectors, methods := array(c.ObjectAt(api.ClassSelectors)), array(c.ObjectAt(api.ClassMethods))
		demand(selectors.Size() <= api.MaxMethods && methods.Size() == selectors.Size())
		last := ""
		for i := range selectors.Size() {
			// What is no symbol has the text "", which is never behind another.
			text := selectors.TextAt(i)
			demand(text > last)
			last = text
			m := methods.ObjectAt(i)
			demand(m.Is(api.Method, api.FormatWords))
			demand(m.At(api.MethodSelector) == selectors.At(i))
			demand(m.At(api.MethodClass) == named(c))
			demand(m.At(api.MethodLayout) == c.At(api.ClassLayout))
		}
	}
}

// lookAtGlobals: their names are such, and all unlike.
func (s *survey) lookAtGlobals() {
	all := array(s.root(api.RootGlobals))
	demand(all.Size()%pair == 0 && all.Size() <= pair*api.MaxGlobals)
	for i := 0; i < all.Size(); i += pair {
		text := all.TextAt(i)
		demand(name.Class(text))
		s.take(text)
		s.names.Globals = append(s.names.Globals, text)
	}
}
