package image

import (
	"kiln/api"
	"kiln/object"
	"kiln/symbol"
	"kiln/word"
)

// survey looks at the objects of a kernel that the root reaches. What one rule
// has seen to, those behind it lean on.
type survey struct {
	*walk
	symbols *symbol.Table           // the kernel's, with room for no other
	ofClass map[int][]object.Object // by the oop of their class
	fields  map[int][]string        // by class
	taken   map[string]int          // the names of classes and globals
	names   api.Names               // the same, as a source may have them
	chains  [][]int                 // of each process that is ready, from its top context on
	runs    map[int]int             // in how many chains a context stands
	codes   map[int]api.Code        // by method, of those that are not stale
	layouts map[int]layout          // likewise, as far as they were asked for
	parts   map[int]int             // what each inner object is
}

func newSurvey(w *walk) *survey {
	s := &survey{
		walk:    w,
		symbols: full(w.kernel.Symbols().All()),
		ofClass: map[int][]object.Object{},
		fields:  map[int][]string{},
		taken:   map[string]int{},
		runs:    map[int]int{},
		codes:   map[int]api.Code{},
		layouts: map[int]layout{},
		parts:   map[int]int{},
	}
	for _, o := range w.met {
		class := o.Class().Oop()
		s.ofClass[class] = append(s.ofClass[class], o)
	}
	return s
}

// full is a table of symbols that takes no other: whoever would add one to it is refused.
func full(texts []string) *symbol.Table {
	t, e := symbol.Load(texts, len(texts))
	demand(e == api.OK)
	return t
}

// look throws, unless the objects are sound.
func (s *survey) look() {
	for _, rule := range []func(*survey){
		(*survey).lookAtWords,
		(*survey).lookAtKernel,
		(*survey).lookAtClasses,
		(*survey).lookAtDictionaries,
		(*survey).lookAtGlobals,
		(*survey).lookAtProcesses,
		(*survey).lookAtInstances,
		(*survey).lookAtMethods,
		(*survey).lookAtContexts,
		(*survey).lookAtBlocks,
		(*survey).lookAtChains,
		(*survey).lookAtOwners,
	} {
		rule(s)
	}
}

// lookAtWords: each word means something that there is, each class is one.
func (s *survey) lookAtWords() {
	for _, o := range s.met {
		_, e := s.kernel.Number(o.Class().Oop())
		demand(e == api.OK)
		if o.Format() != api.FormatWords {
			continue
		}
		for _, w := range o.Words() {
			demand(s.means(w))
		}
	}
}

func (s *survey) means(w api.Word) bool {
	if n, e := word.Sym(w); e == api.OK {
		return n < s.symbols.Count()
	}
	_, e := s.kernel.Of(w)
	return e == api.OK
}

// root is what one of the root's slots names.
func (s *survey) root(slot int) object.Object {
	return object.Of(s.kernel, api.Root).ObjectAt(slot)
}

// array is an object that must be an Array.
func array(o object.Object) object.Object {
	demand(o.Is(api.Array, api.FormatWords))
	return o
}

// named is the word of an object that is there.
func named(o object.Object) api.Word {
	w, e := o.Word()
	demand(e == api.OK)
	return w
}

// objectOf is the object that a word names.
func (s *survey) objectOf(w api.Word) object.Object {
	oop, _ := word.Oop(w)
	return object.Of(s.kernel, oop)
}

// demandInt throws, unless a word is an integer within bounds.
func demandInt(w api.Word, least, most int) {
	n, e := word.Num(w)
	demand(e == api.OK && within(n, least, most))
}
