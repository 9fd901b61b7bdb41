package heap_test

import (
	"slices"

	"kiln/api"
	"kiln/word"
)

// thing is an object of the model, with its place.
type thing struct {
	api.HeapObject
	place int
}

// model is a heap told over from the chapter's words, as plainly as they are:
// nothing is kept but what they name, and all else is looked for.
type model struct {
	words, oops, mark int
	things            []thing
	now               int // counts the allocations
	born              map[int]int
}

func newModel(words, oops int) *model {
	return &model{words: words, oops: oops, born: map[int]int{}}
}

func lengthOf(o api.HeapObject) int {
	if o.Format == 1 {
		return 2 + (len(o.Slots)+3)/4
	}
	return 2 + len(o.Slots)
}

func (m *model) find(oop int) int {
	return slices.IndexFunc(m.things, func(t thing) bool { return t.Oop == oop })
}

func (m *model) end() int {
	end := 0
	for _, t := range m.things {
		end = max(end, t.place+lengthOf(t.HeapObject))
	}
	return end
}

func (m *model) alloc(class api.Word, n, format int) (int, api.Errno) {
	switch {
	case word.Kind(class) == word.KindNone || format != 0 && format != 1 || n < 0:
		return 0, api.ErrArg
	case n > 8192:
		return 0, api.ErrSize
	}
	o := api.HeapObject{Oop: 1, Class: class, Format: format, Slots: make([]api.Word, n)}
	if len(m.things) >= m.oops || m.words-m.end() < lengthOf(o) {
		return 0, api.ErrFull
	}
	if m.mark == 1 {
		m.mark = 0
		return 0, api.ErrMarked
	}
	if m.mark > 0 {
		m.mark--
	}
	for m.find(o.Oop) >= 0 {
		o.Oop++
	}
	for i := range o.Slots {
		o.Slots[i] = api.Word(4 - 4*format)
	}
	m.things = append(m.things, thing{o, m.end()})
	m.now++
	m.born[o.Oop] = m.now
	return o.Oop, api.OK
}

func (m *model) free(oop int) api.Errno {
	i := m.find(oop)
	if i < 0 {
		return api.ErrOop
	}
	m.things = slices.Delete(m.things, i, i+1)
	return api.OK
}

func (m *model) setClass(oop int, class api.Word) api.Errno {
	i := m.find(oop)
	if i < 0 {
		return api.ErrOop
	}
	if word.Kind(class) == word.KindNone {
		return api.ErrWord
	}
	m.things[i].Class = class
	return api.OK
}

func (m *model) put(oop, slot int, w api.Word) api.Errno {
	i := m.find(oop)
	if i < 0 {
		return api.ErrOop
	}
	t := m.things[i]
	if slot < 0 || slot >= len(t.Slots) {
		return api.ErrSlot
	}
	if t.Format == 0 && word.Kind(w) == word.KindNone || t.Format == 1 && (w < 0 || w > 255) {
		return api.ErrWord
	}
	t.Slots[slot] = w
	return api.OK
}

func (m *model) exchange(a, b int) api.Errno {
	i, k := m.find(a), m.find(b)
	if i < 0 || k < 0 {
		return api.ErrOop
	}
	m.things[i].Oop, m.things[k].Oop = b, a
	return api.OK
}

// back takes away what was allocated behind the point's time.
func (m *model) back(then int) {
	m.things = slices.DeleteFunc(m.things, func(t thing) bool { return m.born[t.Oop] > then })
}

func (m *model) keep(oops []int) (int, int, api.Errno) {
	for _, oop := range oops {
		if m.find(oop) < 0 {
			return 0, 0, api.ErrOop
		}
	}
	count, end := len(m.things), m.end()
	m.things = slices.DeleteFunc(m.things, func(t thing) bool { return !slices.Contains(oops, t.Oop) })
	m.pack()
	return count - len(m.things), end - m.end(), api.OK
}

// pack lets the objects slide together.
func (m *model) pack() {
	m.sort()
	place := 0
	for i := range m.things {
		m.things[i].place = place
		place += lengthOf(m.things[i].HeapObject)
	}
}

func (m *model) sort() {
	slices.SortFunc(m.things, func(a, b thing) int { return a.place - b.place })
}

func (m *model) all() []int {
	var list []int
	for _, t := range m.things {
		list = append(list, t.Oop)
	}
	slices.Sort(list)
	return list
}

func (m *model) state() api.HeapState {
	m.sort()
	s := api.HeapState{Words: m.words, Oops: m.oops, Mark: m.mark}
	for _, t := range m.things {
		o := t.HeapObject
		o.Slots = slices.Clone(o.Slots)
		s.Objects = append(s.Objects, o)
	}
	return s
}
