package reshape_test

import (
	"fmt"
	"slices"

	"kiln/api"
	"kiln/method"
)

// model foretells what a reshape comes to, word by word from the chapter, over
// a world as data: classes as lists, objects as lists, no bracket, no plan.
type model struct {
	w       *world
	classes []api.ClassInfo
	place   int // of the class, from 0 on
	own     []string
	family  []int // places of it and its descendants
	codes   map[string]api.MethodInfo

	objects     []api.HeapObject // in the order of their places
	symbols     []string
	words, oops int // what is free
	mark        int
}

func modelOf(w *world, name, own string) *model {
	m := &model{w: w, own: fields(own), codes: map[string]api.MethodInfo{}, symbols: w.k.Symbols().All()}
	for n := 1; n <= w.k.Count(); n++ {
		oop, _ := w.k.Numbered(n)
		info, _ := w.k.Info(oop)
		m.classes = append(m.classes, info)
	}
	m.place = m.find(name)
	for place := range m.classes {
		if m.place >= 0 && m.under(place) {
			m.family = append(m.family, place)
		}
	}
	state := w.k.Space().Heap().State()
	m.objects, m.mark = state.Objects, state.Mark
	return m
}

func (m *model) find(name string) int {
	return slices.IndexFunc(m.classes, func(c api.ClassInfo) bool { return c.Name == name })
}

func (m *model) under(place int) bool {
	return place == m.place || place >= 0 && m.under(m.find(m.classes[place].Super))
}

// fields is all fields of a class ahead of the reshape, or behind it.
func (m *model) fields(place int, behind bool) []string {
	if place < 0 {
		return nil
	}
	own := m.classes[place].Own
	if behind && place == m.place {
		own = m.own
	}
	return slices.Concat(m.fields(m.find(m.classes[place].Super), behind), own)
}

// planned is what plan.Make is to refuse it for; false: there is nothing to do.
func (m *model) planned() (api.Errno, bool) {
	switch {
	case m.place < 0:
		return api.ErrClass, false
	case m.place < 14:
		return api.ErrKernel, false
	}
	inherited := m.fields(m.find(m.classes[m.place].Super), false)
	for i, s := range m.own {
		switch {
		case s[0] < 'a' || s[0] > 'z' || len(s) > 32 || slices.Contains(fields("self super nil true false"), s):
			return api.ErrName, false
		case slices.Contains(m.own[:i], s):
			return api.ErrDouble, false
		case slices.Contains(inherited, s):
			return api.ErrInherited, false
		}
	}
	for _, place := range m.family[1:] {
		for _, s := range m.classes[place].Own {
			if slices.Contains(m.own, s) {
				return api.ErrBelow, false
			}
		}
	}
	for _, place := range m.family {
		if len(m.fields(place, true)) > 32 {
			return api.ErrFields, false
		}
	}
	return api.OK, !slices.Equal(m.own, m.classes[m.place].Own)
}

// key is under which a method's new code is kept.
func key(class, selector string) string { return class + ">>" + selector }

// compiled compiles all methods in another world, whose class had the new
// fields from the beginning.
func (m *model) compiled() api.Refusal {
	other := bare(m.w.t, api.MaxWords, api.MaxOops)
	for _, s := range m.symbols {
		other.k.Symbols().Add(s)
	}
	for place, c := range m.classes[14:] {
		own := c.Own
		if place+14 == m.place {
			own = m.own
		}
		if _, e := other.k.Define(c.Name, c.Super, own); e != api.OK {
			m.w.t.Fatalf("Define(%q, %q, %q) = %d", c.Name, c.Super, own, e)
		}
	}
	for _, s := range m.w.k.Globals() {
		other.global(s)
	}
	for _, place := range m.family {
		name := m.classes[place].Name
		for _, selector := range m.w.b.Selectors(m.w.named(name)) {
			old, _ := m.w.info(name, selector)
			made, f := method.Compile(other.k, other.named(name), old.Source)
			if f.Code != api.OK {
				return api.Refusal{Code: f.Code, Class: name, Selector: selector, At: f.At}
			}
			m.codes[key(name, selector)], _ = method.Info(other.k, made)
		}
	}
	return api.Refusal{}
}

// foretell is the answer; all else is what the model is then. A bracket may be open.
func (m *model) foretell(open bool) api.Refusal {
	e, some := m.planned()
	if e != api.OK || !some {
		return refused(e)
	}
	if r := m.compiled(); r != (api.Refusal{}) {
		return r
	}
	if open {
		return refused(api.ErrPoint)
	}
	m.objects = m.w.live()
	m.words, m.oops = m.w.k.Space().Room()
	was, mark, symbols := slices.Clone(m.objects), m.mark, slices.Clone(m.symbols)
	e = m.transaction()
	if e == api.OK {
		return api.Refusal{}
	}
	m.objects, m.symbols = was, symbols
	if m.mark = mark; e == api.ErrMarked {
		m.mark = 0
	}
	return refused(e)
}

// alloc is a new object's oop.
func (m *model) alloc(class api.Word, slots []api.Word) (int, api.Errno) {
	if m.oops == 0 || m.words < 2+len(slots) {
		return 0, api.ErrFull
	}
	if m.mark == 1 {
		return 0, api.ErrMarked
	}
	m.mark = max(m.mark-1, 0)
	m.words, m.oops = m.words-2-len(slots), m.oops-1
	taken := make([]bool, len(m.objects)+m.oops+3)
	for _, o := range m.objects {
		taken[o.Oop] = true
	}
	oop := 1 + slices.Index(taken[1:], false)
	m.objects = append(m.objects, api.HeapObject{Oop: oop, Class: class, Slots: slots})
	return oop, api.OK
}

func (m *model) at(oop int) *api.HeapObject {
	for i := range m.objects {
		if m.objects[i].Oop == oop {
			return &m.objects[i]
		}
	}
	return nil
}

// array is the oop of an Array; an empty one is there.
func (m *model) array(slots []api.Word) (int, api.Errno) {
	if len(slots) == 0 {
		return api.Empty, api.OK
	}
	return m.alloc(obj(api.Array), slots)
}

// transaction is P21.2 from 2 on, behind Begin.
func (m *model) transaction() api.Errno {
	var names []api.Word
	for _, s := range m.own {
		if !slices.Contains(m.symbols, s) {
			if len(m.symbols) >= m.w.most {
				return api.ErrSymbols
			}
			m.symbols = append(m.symbols, s)
		}
		names = append(names, api.Word(4*slices.Index(m.symbols, s)+2))
	}
	old := slices.Clone(m.objects)
	own, e := m.array(names)
	if e != api.OK {
		return e
	}
	methods := map[int]int{}
	for _, place := range m.family {
		if methods[place], e = m.methods(place); e != api.OK {
			return e
		}
	}
	var bodies []api.HeapObject
	for _, place := range m.family {
		list, e := m.bodies(place, old)
		if e != api.OK {
			return e
		}
		bodies = append(bodies, list...)
	}
	m.commit(own, methods, bodies)
	return api.OK
}

// methods is the oop of a class's new Array of methods.
func (m *model) methods(place int) (int, api.Errno) {
	name := m.classes[place].Name
	var list []api.Word
	for _, selector := range m.w.b.Selectors(m.w.named(name)) {
		_, old := m.w.info(name, selector)
		made := m.codes[key(name, selector)]
		var words []api.Word
		for _, n := range made.Code {
			words = append(words, num(n))
		}
		code, e := m.array(words)
		if e != api.OK {
			return 0, e
		}
		slots := m.w.slots(old)
		slots[2] = num(m.classes[place].Layout + 1)
		slots[3], slots[4], slots[5] = num(made.Args), num(made.Temps), num(made.Stack)
		slots[7] = obj(code)
		oop, e := m.alloc(obj(api.Method), slots)
		if e != api.OK {
			return 0, e
		}
		list = append(list, obj(oop))
	}
	return m.array(list)
}

// bodies is of each instance of a class, under its own oop, what it is to be.
func (m *model) bodies(place int, old []api.HeapObject) ([]api.HeapObject, api.Errno) {
	class := obj(m.w.named(m.classes[place].Name))
	was := m.fields(place, false)
	var list []api.HeapObject
	slices.SortFunc(old, func(a, b api.HeapObject) int { return a.Oop - b.Oop })
	for _, o := range old {
		if o.Class != class {
			continue
		}
		slots := []api.Word{}
		for _, s := range m.fields(place, true) {
			x := null
			if i := slices.Index(was, s); i >= 0 {
				x = o.Slots[i]
			}
			slots = append(slots, x)
		}
		if _, e := m.alloc(class, slots); e != api.OK {
			return nil, e
		}
		list = append(list, api.HeapObject{Oop: o.Oop, Class: class, Slots: slots})
	}
	return list, api.OK
}

// commit lets the instances lie where their new bodies were laid, behind all
// others, and gives the classes what is theirs.
func (m *model) commit(own int, methods map[int]int, bodies []api.HeapObject) {
	m.objects = m.objects[:len(m.objects)-len(bodies)]
	m.objects = slices.DeleteFunc(m.objects, func(o api.HeapObject) bool {
		return slices.ContainsFunc(bodies, func(b api.HeapObject) bool { return b.Oop == o.Oop })
	})
	m.objects = append(m.objects, bodies...)
	for _, place := range m.family {
		c := m.at(m.w.named(m.classes[place].Name))
		c.Slots = slices.Clone(c.Slots)
		c.Slots[4] = obj(methods[place])
		c.Slots[5] = num(m.classes[place].Layout + 1)
		if place == m.place {
			c.Slots[2] = obj(own)
		}
	}
}

// held holds a world against what was foretold.
func (m *model) held() {
	m.w.t.Helper()
	state := m.w.k.Space().Heap().State()
	if got, want := fmt.Sprint(state.Objects), fmt.Sprint(m.objects); got != want {
		m.w.t.Fatalf("the objects are\n%s, want\n%s", got, want)
	}
	if got := m.w.k.Symbols().All(); !slices.Equal(got, m.symbols) {
		m.w.t.Fatalf("the symbols are %q, want %q", got, m.symbols)
	}
	if state.Mark != m.mark {
		m.w.t.Fatalf("the mark is %d, want %d", state.Mark, m.mark)
	}
}
