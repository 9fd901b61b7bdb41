package class_test

import (
	"fmt"
	"math/rand"
	"slices"
	"testing"

	"kiln/api"
	"kiln/class"
)

// model is a kernel told over from the chapter's words, without a heap: what is
// live is counted, not laid.
type model struct {
	words, oops int
	mark        int
	symbols     []string
	most        int
	classes     []modelClass
	globals     []modelGlobal
	kept        []int // the slots of arrays that the test keeps
}

type modelClass struct {
	name, super string
	own         []string
}

type modelGlobal struct {
	name  string
	value api.Word
}

func newModel(words, oops int) *model {
	m := &model{words: words, oops: oops, most: 4096}
	for i, name := range kernelNames {
		c := modelClass{name: name, super: "Object"}
		if i == 0 {
			c.super = ""
		}
		m.classes = append(m.classes, c)
		m.symbols = append(m.symbols, name)
	}
	return m
}

func arrayWords(n int) (int, int) {
	if n == 0 {
		return 0, 0
	}
	return 2 + n, 1
}

// live is the words and the objects that the root and the stack lead to.
func (m *model) live() (int, int) {
	words, oops := 3*2+2+10, 5
	add := func(w, o int) { words, oops = words+w, oops+o }
	for _, c := range m.classes {
		add(9, 1)
		add(arrayWords(len(c.own)))
	}
	add(arrayWords(len(m.classes)))
	add(arrayWords(2 * len(m.globals)))
	for _, n := range m.kept {
		add(2+n, 1)
	}
	return words, oops
}

// alloc is what some allocations, one behind the other, come to, and how the mark stands then.
func (m *model) alloc(lengths ...int) api.Errno {
	words, oops := m.live()
	for _, n := range lengths {
		words, oops = words+2+n, oops+1
		if words > m.words || oops > m.oops {
			return api.ErrFull
		}
		if m.mark == 1 {
			m.mark = 0
			return api.ErrMarked
		}
		m.mark = max(0, m.mark-1)
	}
	return api.OK
}

func (m *model) find(name string) int {
	return slices.IndexFunc(m.classes, func(c modelClass) bool { return c.name == name })
}

func (m *model) place(name string) int {
	return slices.IndexFunc(m.globals, func(g modelGlobal) bool { return g.name == name })
}

func (m *model) fields(name string) []string {
	var list []string
	for name != "" {
		c := m.classes[m.find(name)]
		list = slices.Concat(c.own, list)
		name = c.super
	}
	return list
}

func (m *model) under(i int) []int {
	var list []int
	for j := range m.classes {
		for c := m.classes[j]; ; c = m.classes[m.find(c.super)] {
			if c.name == m.classes[i].name {
				list = append(list, j+1)
			}
			if c.super == "" {
				break
			}
		}
	}
	return list
}

func isName(s string, first byte) bool {
	if len(s) < 1 || len(s) > 32 || s[0] < first || s[0] > first+25 {
		return false
	}
	for _, r := range s {
		if !(r >= '0' && r <= '9' || r >= 'A' && r <= 'Z' || r >= 'a' && r <= 'z') {
			return false
		}
	}
	return !slices.Contains([]string{"self", "super", "nil", "true", "false"}, s)
}

// act does what is done with all or nothing: symbols, then allocations.
func (m *model) act(names []string, lengths ...int) api.Errno {
	count, mark := len(m.symbols), m.mark
	e := api.OK
	for _, s := range names {
		if !slices.Contains(m.symbols, s) && e == api.OK {
			if len(m.symbols) == m.most {
				e = api.ErrSymbols
			} else {
				m.symbols = append(m.symbols, s)
			}
		}
	}
	if e == api.OK {
		e = m.alloc(lengths...)
	}
	if e != api.OK {
		m.symbols = m.symbols[:count]
		if m.mark != 0 {
			m.mark = mark
		}
	}
	return e
}

func (m *model) mayOwn(super string, own []string) api.Errno {
	fields := m.fields(super)
	for i, s := range own {
		switch {
		case !isName(s, 'a'):
			return api.ErrName
		case slices.Contains(own[:i], s):
			return api.ErrDouble
		case slices.Contains(fields, s):
			return api.ErrInherited
		}
	}
	if len(fields)+len(own) > 32 {
		return api.ErrFields
	}
	return api.OK
}

func (m *model) define(name, super string, own []string) api.Errno {
	if !isName(name, 'A') {
		return api.ErrName
	}
	if m.find(name) >= 0 || m.place(name) >= 0 {
		return api.ErrThere
	}
	above := m.find(super)
	if above < 0 {
		return api.ErrClass
	}
	if above > 0 && above < 14 {
		return api.ErrKernel
	}
	if e := m.mayOwn(super, own); e != api.OK {
		return e
	}
	if len(m.classes) >= 256 {
		return api.ErrCount
	}
	lengths := []int{len(own), 7, len(m.classes) + 1}
	if len(own) == 0 {
		lengths = lengths[1:]
	}
	e := m.act(append([]string{name}, own...), lengths...)
	if e == api.OK {
		m.classes = append(m.classes, modelClass{name, super, slices.Clone(own)})
	}
	return e
}

func (m *model) global(name string) api.Errno {
	if !isName(name, 'A') {
		return api.ErrName
	}
	if m.find(name) >= 0 || m.place(name) >= 0 {
		return api.ErrThere
	}
	if len(m.globals) >= 256 {
		return api.ErrCount
	}
	e := m.act([]string{name}, 2*len(m.globals)+2)
	if e == api.OK {
		m.globals = append(m.globals, modelGlobal{name, 4})
	}
	return e
}

// twin is a kernel and a model that are told the same.
type twin struct {
	t *testing.T
	r *rand.Rand
	k *class.Kernel
	m *model
	// classes is the oops that Define answered, behind the kernel's.
	classes []int
}

func newTwin(t *testing.T, r *rand.Rand) *twin {
	words, oops := 160+r.Intn(400), 20+r.Intn(50)
	w := &twin{t: t, r: r, k: booted(t, words, oops), m: newModel(words, oops)}
	for i := range 14 {
		w.classes = append(w.classes, 4+i)
	}
	if r.Intn(3) == 0 {
		for i := 0; w.k.Symbols().Count() < 4096-r.Intn(8); i++ {
			s := fmt.Sprint("sym", i)
			w.k.Symbols().Add(s)
			w.m.symbols = append(w.m.symbols, s)
		}
	}
	return w
}

func (w *twin) pick(list ...string) string { return list[w.r.Intn(len(list))] }

func (w *twin) name() string {
	if w.r.Intn(2) == 0 {
		return fmt.Sprint("C", w.r.Intn(30))
	}
	return w.pick("A", "B", "D", "Object", "Integer", "Class", "", "a", "A b", "E", "F", "G9", "H", "self")
}

func (w *twin) own() []string {
	var list []string
	for range w.r.Intn(5) * w.r.Intn(3) {
		list = append(list, w.pick("x", "y", "z", "a", "b", "c", "d", "e", fmt.Sprint("f", w.r.Intn(60)), fmt.Sprint("g", w.r.Intn(60))))
	}
	if w.r.Intn(12) == 0 {
		list = append(list, many(20+w.r.Intn(16))...)
	}
	if w.r.Intn(12) == 0 {
		list = append(list, w.pick("X", "", "self", "nil", "a:", "true"), "x")
	}
	return list
}

func (w *twin) define() {
	w.t.Helper()
	name, super, own := w.name(), w.name(), w.own()
	if w.r.Intn(2) == 0 {
		super = w.m.classes[w.r.Intn(len(w.m.classes))].name
	}
	want := w.m.define(name, super, own)
	oop, e := w.k.Define(name, super, own)
	if e != want || (oop != 0) != (e == api.OK) {
		w.t.Fatalf("Define(%q, %q, %q) = %d, %d, want %d", name, super, own, oop, e, want)
	}
	if e == api.OK {
		w.classes = append(w.classes, oop)
	}
}

// memory does something to the memory beside the kernel's calls.
func (w *twin) memory() {
	w.t.Helper()
	s, n := w.k.Space(), w.r.Intn(12)
	switch w.r.Intn(7) {
	case 0:
		s.Heap().Mark(n / 2)
		w.m.mark = n / 2
	case 1:
		s.Collect()
	case 2:
		want := w.m.alloc(n)
		x, e := s.Alloc(4*api.Array, n, 0)
		wantErr(w.t, "Alloc", e, want)
		if e == api.OK {
			s.Keep(x)
			w.m.kept = append(w.m.kept, n)
		}
	case 3:
		n = w.r.Intn(len(w.m.kept) + 1)
		s.Drop(n)
		w.m.kept = w.m.kept[:len(w.m.kept)-n]
	default:
		want := w.m.alloc(n)
		_, e := s.Alloc(4*api.Array, n, 0)
		wantErr(w.t, "Alloc", e, want)
	}
}

func (w *twin) setValue() {
	w.t.Helper()
	i := w.r.Intn(6) - 1
	x := api.Word(4*w.r.Intn(20) + w.r.Intn(4))
	want := api.OK
	if i < 0 || i >= len(w.m.globals) {
		want = api.ErrArg
	} else if x == 0 {
		want = api.ErrWord
	} else {
		w.m.globals[i].value = x
	}
	wantErr(w.t, "SetValue", w.k.SetValue(i, x), want)
}

func (w *twin) act() {
	w.t.Helper()
	switch w.r.Intn(8) {
	case 0, 1:
		name := w.name()
		want := w.m.global(name)
		wantErr(w.t, "Global "+name, w.k.Global(name), want)
	case 2:
		w.setValue()
	case 3, 4:
		w.memory()
	default:
		w.define()
	}
}

// hold holds all that the kernel says against the model.
func (w *twin) hold() {
	w.t.Helper()
	if w.k.Count() != len(w.m.classes) || !slices.Equal(w.k.Symbols().All(), w.m.symbols) {
		w.t.Fatalf("%d classes, the symbols %q, want %v", w.k.Count(), w.k.Symbols().All(), w.m)
	}
	for i, c := range w.m.classes {
		w.holdClass(i, c)
	}
	oop, e := w.k.Numbered(len(w.m.classes) + 1)
	wantOop(w.t, "Numbered", oop, e, 0, api.ErrClass)
	var names []string
	for i, g := range w.m.globals {
		names = append(names, g.name)
		wantValue(w.t, w.k, i, g.value, api.OK)
	}
	if !slices.Equal(w.k.Globals(), names) {
		w.t.Fatalf("Globals = %q, want %q", w.k.Globals(), names)
	}
	words, oops := w.m.live()
	left, numbers := w.k.Space().Room()
	if w.m.words-words != left || w.m.oops-oops != numbers || w.k.Space().Heap().Marked() != w.m.mark {
		w.t.Fatalf("Room = %d, %d, the mark %d; %d, %d are live, the mark %d", left, numbers, w.k.Space().Heap().Marked(), words, oops, w.m.mark)
	}
	if len(w.k.Space().Kept()) != len(w.m.kept) {
		w.t.Fatalf("%d are kept, want %d", w.k.Space().Kept(), w.m.kept)
	}
}

func (w *twin) holdClass(i int, c modelClass) {
	w.t.Helper()
	oop, e := w.k.Find(c.name)
	wantOop(w.t, "Find "+c.name, oop, e, w.classes[i], api.OK)
	oop, e = w.k.Numbered(i + 1)
	wantOop(w.t, "Numbered", oop, e, w.classes[i], api.OK)
	n, e := w.k.Number(oop)
	wantOop(w.t, "Number", n, e, i+1, api.OK)
	n, e = w.k.Layout(oop)
	wantOop(w.t, "Layout", n, e, 0, api.OK)
	wantInfo(w.t, w.k, oop, api.ClassInfo{Name: c.name, Super: c.super, Own: c.own})
	wantFields(w.t, w.k, oop, w.m.fields(c.name)...)
	wantUnder(w.t, w.k, oop, w.m.under(i)...)
	up, e := w.k.Super(oop)
	want := 0
	if c.super != "" {
		want = w.classes[w.m.find(c.super)]
	}
	wantOop(w.t, "Super", up, e, want, api.OK)
	of, e := w.k.Of(api.Word(4 * oop))
	wantOop(w.t, "Of", of, e, api.Class, api.OK)
}

// All that the chapter says, whatever comes behind whatever.
func TestAsTheModel(t *testing.T) {
	r := rand.New(rand.NewSource(13))
	for range 150 {
		w := newTwin(t, r)
		for range 60 {
			w.act()
			w.hold()
		}
	}
}
