package dict_test

import (
	"fmt"
	"maps"
	"math/rand"
	"slices"
	"testing"

	"kiln/api"
	"kiln/class"
	"kiln/dict"
)

// model is a kernel's dictionaries told over from the chapter's words, without
// a heap: what is live is counted, not laid.
type model struct {
	words, oops, mark int
	symbols           []string
	classes           []*modelClass
	sizes             map[int]int // the words of each object of the test's own, by its oop
	kept              []int       // the oops of those that the space keeps
	asked             map[[2]int]int
	hits              int
}

type modelClass struct {
	oop     int
	super   *modelClass
	methods map[string]int
}

func newModel(words, oops int, symbols []string) *model {
	m := &model{words: words, oops: oops, symbols: symbols, sizes: map[int]int{}, asked: map[[2]int]int{}}
	for i := range 14 {
		c := &modelClass{oop: 4 + i, methods: map[string]int{}}
		if i > 0 {
			c.super = m.classes[0]
		}
		m.classes = append(m.classes, c)
	}
	return m
}

func (m *model) class(oop int) *modelClass {
	i := slices.IndexFunc(m.classes, func(c *modelClass) bool { return c.oop == oop })
	if i < 0 {
		return nil
	}
	return m.classes[i]
}

// live is the words and the objects that the root, the stack and these oops lead to.
func (m *model) live(more ...int) (int, int) {
	words, oops := 3*2+2+10, 5
	reached := map[int]int{}
	for _, oop := range slices.Concat(m.kept, more) {
		reached[oop] = m.sizes[oop]
	}
	for _, c := range m.classes {
		words, oops = words+9, oops+1
		if n := len(c.methods); n > 0 {
			words, oops = words+2*(2+n), oops+2
		}
		for oop := range maps.Values(c.methods) {
			reached[oop] = m.sizes[oop]
		}
	}
	words, oops = words+2+len(m.classes), oops+1
	for _, n := range reached {
		if n > 0 { // else it is one of the kernel's objects
			words, oops = words+n, oops+1
		}
	}
	return words, oops
}

// alloc is what some allocations of so many words come to, one behind the
// other, while these oops are live too.
func (m *model) alloc(lengths []int, more ...int) api.Errno {
	words, oops := m.live(more...)
	for _, n := range lengths {
		words, oops = words+n, oops+1
		if words > m.words || oops > m.oops {
			return api.ErrFull
		}
		if m.mark == 1 {
			m.mark = 0
			return api.ErrMarked
		}
		m.mark = max(0, m.mark-1)
	}
	return api.OK
}

// lists is the two allocations of a dictionary with so many methods.
func lists(n int) []int {
	if n == 0 {
		return nil
	}
	return []int{2 + n, 2 + n}
}

func (m *model) put(class int, selector string, method int, there bool) api.Errno {
	c := m.class(class)
	if c == nil {
		return api.ErrClass
	}
	if !slices.Contains(m.symbols, selector) {
		return api.ErrSymbol
	}
	if !there {
		return api.ErrOop
	}
	if _, old := c.methods[selector]; !old {
		if len(c.methods) >= 128 {
			return api.ErrCount
		}
		if e := m.alloc(lists(len(c.methods)+1), method); e != api.OK {
			return e
		}
	}
	c.methods[selector] = method
	clear(m.asked)
	return api.OK
}

func (m *model) remove(class int, selector string) api.Errno {
	c := m.class(class)
	if c == nil {
		return api.ErrClass
	}
	if _, there := c.methods[selector]; !there {
		return api.ErrSelector
	}
	if e := m.alloc(lists(len(c.methods) - 1)); e != api.OK {
		return e
	}
	delete(c.methods, selector)
	clear(m.asked)
	return api.OK
}

func (m *model) lookup(class, symbol int) (int, int) {
	c := m.class(class)
	if c == nil {
		return 0, 0
	}
	m.hits += m.asked[[2]int{class, symbol}]
	m.asked[[2]int{class, symbol}] = 1
	if symbol < 0 || symbol >= len(m.symbols) {
		return 0, 0
	}
	for ; c != nil; c = c.super {
		if method, there := c.methods[m.symbols[symbol]]; there {
			return method, c.oop
		}
	}
	return 0, 0
}

// twin is a book and a model that are told the same.
type twin struct {
	t *testing.T
	r *rand.Rand
	k *class.Kernel
	b *dict.Book
	m *model
}

func newTwin(t *testing.T, r *rand.Rand) *twin {
	words, oops := 160+r.Intn(500), 20+r.Intn(60)
	k, b := booted(t, words, oops)
	return &twin{t, r, k, b, newModel(words, oops, k.Symbols().All())}
}

// selector is one of a few texts, most of them symbols sooner or later.
func (w *twin) selector() string {
	list := mixed()
	return list[w.r.Intn(1+w.r.Intn(len(list)))]
}

// classOop is mostly a class's.
func (w *twin) classOop() int {
	if w.r.Intn(8) == 0 {
		return w.r.Intn(40) - 2
	}
	// The last ones are those that are defined: they have ways up.
	n := len(w.m.classes)
	return w.m.classes[n-1-w.r.Intn(1+w.r.Intn(n))].oop
}

// method is an object that is there, perhaps garbage, or none.
func (w *twin) method() (int, bool) {
	switch w.r.Intn(6) {
	case 0:
		return []int{0, -3, 1000, 1 << 40}[w.r.Intn(4)], false
	case 1:
		return 1 + w.r.Intn(19), true
	case 2, 3:
		if n := len(w.m.kept); n > 0 {
			return w.m.kept[w.r.Intn(n)], true
		}
	}
	if oop := w.alloc(); oop != 0 {
		return oop, true
	}
	return 0, false
}

// alloc is a new object that nothing leads to, if there is room.
func (w *twin) alloc() int {
	w.t.Helper()
	n := w.r.Intn(12)
	want := w.m.alloc([]int{2 + n})
	x, e := w.k.Space().Alloc(4*api.Array, n, 0)
	wantErr(w.t, "Alloc", e, want)
	if e != api.OK {
		return 0
	}
	w.m.sizes[int(x)/4] = 2 + n
	return int(x) / 4
}

func (w *twin) define() {
	w.t.Helper()
	up := w.m.classes[0]
	if n := len(w.m.classes); n > 14 && w.r.Intn(4) > 0 {
		up = w.m.classes[14+w.r.Intn(n-14)]
	}
	above, _ := w.k.Info(up.oop)
	name := fmt.Sprint("C", len(w.m.classes))
	mark := w.m.mark
	want := w.m.alloc([]int{9, 2 + len(w.m.classes) + 1})
	oop, e := w.k.Define(name, above.Name, nil)
	wantErr(w.t, "Define", e, want)
	if e != api.OK {
		if w.m.mark != 0 {
			w.m.mark = mark
		}
		return
	}
	w.m.symbols = w.k.Symbols().All()
	w.m.classes = append(w.m.classes, &modelClass{oop: oop, super: up, methods: map[string]int{}})
}

// memory does something to the memory and the symbols beside the book's calls.
func (w *twin) memory() {
	w.t.Helper()
	switch w.r.Intn(8) {
	case 0:
		w.m.mark = w.r.Intn(6)
		w.k.Space().Heap().Mark(w.m.mark)
	case 1:
		w.k.Space().Collect()
	case 2, 3:
		if oop := w.alloc(); oop != 0 {
			w.k.Space().Keep(api.Word(4 * oop))
			w.m.kept = append(w.m.kept, oop)
		}
	case 4:
		n := w.r.Intn(len(w.m.kept) + 1)
		w.k.Space().Drop(n)
		w.m.kept = w.m.kept[:len(w.m.kept)-n]
	case 5:
		w.define()
	default:
		w.k.Symbols().Add(w.selector())
		w.m.symbols = w.k.Symbols().All()
	}
}

func (w *twin) lookup() {
	w.t.Helper()
	class, n := w.classOop(), 14+w.r.Intn(len(mixed()))
	if w.r.Intn(8) == 0 {
		n = farInts[w.r.Intn(len(farInts))]
	}
	m, in := w.m.lookup(class, n)
	wantLookup(w.t, w.b, class, n, m, in)
	wantHits(w.t, w.b, w.m.hits)
}

func (w *twin) act() {
	w.t.Helper()
	switch w.r.Intn(12) {
	case 0, 1, 2:
		class, s := w.classOop(), w.selector()
		method, there := w.method()
		want := w.m.put(class, s, method, there)
		wantErr(w.t, fmt.Sprintf("Put(%d, %q, %d)", class, s, method), w.b.Put(class, s, method), want)
	case 3:
		class, s := w.classOop(), w.selector()
		want := w.m.remove(class, s)
		wantErr(w.t, fmt.Sprintf("Remove(%d, %q)", class, s), w.b.Remove(class, s), want)
	case 4, 5:
		w.memory()
	case 6:
		if w.r.Intn(4) == 0 {
			w.b.Flush()
			clear(w.m.asked)
		}
	default:
		w.lookup()
	}
}

// hold holds all that there is to be seen against the model.
func (w *twin) hold() {
	w.t.Helper()
	for _, c := range w.m.classes {
		wantDictionary(w.t, w.k, w.b, c.oop, c.methods)
	}
	words, oops := w.m.live()
	left, numbers := w.k.Space().Room()
	if w.m.words-words != left || w.m.oops-oops != numbers || w.k.Space().Heap().Marked() != w.m.mark {
		w.t.Fatalf("Room = %d, %d, the mark %d; %d, %d are live, the mark %d", left, numbers, w.k.Space().Heap().Marked(), words, oops, w.m.mark)
	}
	if len(w.k.Space().Kept()) != len(w.m.kept) {
		w.t.Fatalf("%d are kept, want %d", w.k.Space().Kept(), w.m.kept)
	}
}

// All that the chapter says, whatever comes behind whatever.
func TestAsTheModel(t *testing.T) {
	r := rand.New(rand.NewSource(14))
	for range 200 {
		w := newTwin(t, r)
		for range 150 {
			w.act()
			w.hold()
		}
	}
}
