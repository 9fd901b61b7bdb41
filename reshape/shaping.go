package reshape

import (
	"kiln/act"
	"kiln/api"
	"kiln/class"
	"kiln/method"
	"kiln/object"
	"kiln/word"
)

// shaping is what becomes of one class of the plan.
type shaping struct {
	api.Change
	kernel    *class.Kernel
	class     object.Object
	layout    int           // the new number
	selectors object.Object // the Array of them; they stay
	methods   object.Object // the Array of the old ones, in the selectors' order
	anew      api.Word      // the Array of the new ones
	instances []int
	bodies    []int // of each instance the new one
}

func newShaping(k *class.Kernel, c api.Change) *shaping {
	oop, _ := k.Numbered(c.Class)
	at := object.Of(k, oop)
	return &shaping{
		Change:    c,
		kernel:    k,
		class:     at,
		layout:    at.NumberAt(api.ClassLayout) + 1,
		selectors: at.ObjectAt(api.ClassSelectors),
		methods:   at.ObjectAt(api.ClassMethods),
	}
}

// check tells which of the class's methods would not compile under the new fields.
func (s *shaping) check() api.Refusal {
	for i := range s.methods.Size() {
		fault := method.Check(s.kernel, s.methods.ObjectAt(i).Oop(), s.New)
		if fault.Code != api.OK {
			return api.Refusal{
				Code:     fault.Code,
				Class:    s.class.TextAt(api.ClassName),
				Selector: s.selectors.TextAt(i),
				At:       fault.At,
			}
		}
	}
	return api.Refusal{}
}

// layMethods compiles the class's methods anew, and makes the Array of them.
func (s *shaping) layMethods() api.Errno {
	var list []api.Word
	for i := range s.methods.Size() {
		oop, e := method.Again(s.kernel, s.methods.ObjectAt(i).Oop(), s.New, s.layout)
		if e != api.OK {
			return e
		}
		w, e := word.Object(oop)
		if e != api.OK {
			return e
		}
		list = append(list, w)
	}
	var e api.Errno
	s.anew, e = layArray(s.kernel, list)
	return e
}

// layBodies makes of each instance what it is to be.
func (s *shaping) layBodies() api.Errno {
	for _, oop := range s.instances {
		w, e := act.Lay(s.kernel.Space(), s.class.Oop(), api.FormatWords, len(s.New), s.slots(oop)...)
		if e != api.OK {
			return e
		}
		body, e := word.Oop(w)
		if e != api.OK {
			return e
		}
		s.bodies = append(s.bodies, body)
	}
	return api.OK
}

// slots is what an instance's new body holds: of each field that it has
// already the value, else nil.
func (s *shaping) slots(instance int) []api.Word {
	old := object.Of(s.kernel, instance)
	list := make([]api.Word, len(s.From))
	for i, from := range s.From {
		list[i] = old.At(from)
		// Of a place that is none it reads 0, which is no word.
		if word.Kind(list[i]) == word.KindNone {
			list[i], _ = word.Object(api.Nil)
		}
	}
	return list
}

// settle gives the class what was made for it.
func (s *shaping) settle() {
	s.class.Put(api.ClassMethods, s.anew)
	if w, e := word.Int(s.layout); e == api.OK {
		s.class.Put(api.ClassLayout, w)
	}
}

// layArray is a new Array of these words; the empty one is the kernel's own.
// It is kept by nobody: while a bracket is open nothing is collected.
func layArray(k *class.Kernel, list []api.Word) (api.Word, api.Errno) {
	if len(list) == 0 {
		return word.Object(api.Empty)
	}
	return act.Lay(k.Space(), api.Array, api.FormatWords, len(list), list...)
}
