package space_test

import (
	"math/rand"
	"slices"
	"testing"

	"kiln/api"
	"kiln/heap"
	"kiln/space"
)

// model is a space told over from the chapter's words, over a heap of its own:
// what is live is looked for, slowly, in the heap's state.
type model struct {
	h     *heap.Heap
	root  int
	stack []api.Word
	open  bool
	point heap.Point
	mark  int
}

// live is the objects that the roots lead to, by rising oop.
func (m *model) live() []api.HeapObject {
	names := append(slices.Clone(m.stack), api.Word(4*m.root))
	left := m.h.State().Objects
	var list []api.HeapObject
	for found := true; found; {
		found = false
		for i, o := range left {
			if slices.Contains(names, api.Word(4*o.Oop)) {
				list, found = append(list, o), true
				names = append(names, o.Class)
				if o.Format == 0 {
					names = append(names, o.Slots...)
				}
				left = slices.Delete(left, i, i+1)
				break
			}
		}
	}
	slices.SortFunc(list, func(a, b api.HeapObject) int { return a.Oop - b.Oop })
	return list
}

func (m *model) collect() (int, int, api.Errno) {
	if m.open {
		return 0, 0, api.ErrPoint
	}
	var oops []int
	for _, o := range m.live() {
		oops = append(oops, o.Oop)
	}
	return m.h.Keep(oops)
}

func lengthOf(n, format int) int {
	if format == 1 {
		return 2 + (n+3)/4
	}
	return 2 + n
}

func (m *model) room() (int, int) {
	s := m.h.State()
	live := m.live()
	for _, o := range live {
		s.Words -= lengthOf(len(o.Slots), o.Format)
	}
	return s.Words, s.Oops - len(live)
}

func (m *model) begin() api.Errno {
	if m.open {
		return api.ErrPoint
	}
	m.collect()
	m.open, m.point, m.mark = true, m.h.Point(), m.h.Marked()
	return api.OK
}

func (m *model) commit() api.Errno {
	if !m.open {
		return api.ErrPoint
	}
	m.open = false
	return api.OK
}

func (m *model) abort() api.Errno {
	if e := m.commit(); e != api.OK {
		return e
	}
	e := m.h.Back(m.point)
	if e == api.OK && m.mark != 0 && m.h.Marked() != 0 {
		m.h.Mark(m.mark)
	}
	return e
}

func (m *model) alloc(class api.Word, n, format int) (api.Word, api.Errno) {
	words, oops := m.room()
	oop, e := m.h.Alloc(class, n, format)
	if e == api.ErrFull && !m.open {
		m.collect()
		oop, e = m.h.Alloc(class, n, format)
		// P5.8, in its own words.
		if (e == api.ErrFull) != (oops == 0 || lengthOf(n, format) > words) {
			panic("the model is not what P5.8 says")
		}
	}
	return api.Word(4 * oop), e
}

// twin is a space and a model that are told the same.
type twin struct {
	t *testing.T
	r *rand.Rand
	s *space.Space
	m *model
}

func newTwin(t *testing.T, r *rand.Rand) *twin {
	words, oops := r.Intn(70), r.Intn(14)
	h, e := heap.New(words, oops)
	if e != api.OK {
		t.Fatalf("New = %d", e)
	}
	return &twin{t: t, r: r, s: made(t, words, oops), m: &model{h: h}}
}

func (w *twin) oop() int { return w.r.Intn(14) - 1 }

// word is mostly one, and mostly of an object.
func (w *twin) word() api.Word {
	if w.r.Intn(3) > 0 {
		return api.Word(4 * (1 + w.r.Intn(12)))
	}
	return api.Word(w.r.Intn(60) - 10)
}

// act does one thing to both by the space's calls.
func (w *twin) act() {
	w.t.Helper()
	s, m := w.s, w.m
	switch w.r.Intn(20) {
	case 0:
		wantErr(w.t, "Begin", s.Begin(), m.begin())
	case 1:
		wantErr(w.t, "Abort", s.Abort(), m.abort())
	case 2:
		wantErr(w.t, "Commit", s.Commit(), m.commit())
	case 3:
		away, nearer, e := m.collect()
		wantCollect(w.t, s, away, nearer, e)
	case 4, 5:
		oop := w.oop()
		_, e := m.h.Class(oop)
		wantErr(w.t, "Crown", s.Crown(oop), e)
		if e == api.OK {
			m.root = oop
		}
	case 6, 7:
		w.keep()
	case 8:
		w.drop()
	default:
		class, n, format := w.word(), w.r.Intn(12)-1, w.r.Intn(2)
		want, wantE := m.alloc(class, n, format)
		if x, e := s.Alloc(class, n, format); x != want || e != wantE {
			w.t.Fatalf("Alloc(%d, %d, %d) = %d, %d, want %d, %d", class, n, format, x, e, want, wantE)
		}
	}
}

func (w *twin) keep() {
	w.t.Helper()
	var list []api.Word
	good := true
	for range w.r.Intn(3) {
		x := w.word()
		good = good && x > -1<<31 && x != 0 && (x > 0 || x%2 != 0)
		list = append(list, x)
	}
	if !good {
		wantErr(w.t, "Keep", w.s.Keep(list...), api.ErrWord)
		return
	}
	wantErr(w.t, "Keep", w.s.Keep(list...), api.OK)
	w.m.stack = append(w.m.stack, list...)
}

func (w *twin) drop() {
	w.t.Helper()
	n := w.r.Intn(len(w.m.stack)+4) - 1
	if n < 0 || n > len(w.m.stack) {
		wantErr(w.t, "Drop", w.s.Drop(n), api.ErrKept)
		return
	}
	wantErr(w.t, "Drop", w.s.Drop(n), api.OK)
	w.m.stack = w.m.stack[:len(w.m.stack)-n]
}

// change does one thing to both that changes objects that may be live.
func (w *twin) change() {
	w.t.Helper()
	h, k := w.s.Heap(), w.m.h
	oop, i, x := w.oop(), w.r.Intn(8)-1, w.word()
	switch w.r.Intn(12) {
	case 0:
		wantErr(w.t, "Free", h.Free(oop), k.Free(oop))
	case 1:
		wantErr(w.t, "Exchange", h.Exchange(oop, i), k.Exchange(oop, i))
	case 2:
		wantErr(w.t, "SetClass", h.SetClass(oop, x), k.SetClass(oop, x))
	case 3:
		wantErr(w.t, "Mark", h.Mark(i), k.Mark(i))
	case 4, 5, 6:
		wantErr(w.t, "SetRoot", w.s.SetRoot(i, x), k.Put(w.m.root, i, x))
	default:
		wantErr(w.t, "Put", h.Put(oop, i, x), k.Put(oop, i, x))
	}
}

// hold holds all that the space says against the model.
func (w *twin) hold() {
	w.t.Helper()
	wantState(w.t, w.s, w.m.h.State())
	wantKept(w.t, w.s, w.m.stack...)
	words, oops := w.m.room()
	wantRoom(w.t, w.s, words, oops)
	root := w.m.root
	if _, e := w.m.h.Class(root); e != api.OK {
		root = 0
	}
	wantCrowned(w.t, w.s, root)
	for i := -1; i < 4; i++ {
		x, e := w.m.h.At(root, i)
		wantRoot(w.t, w.s, i, x, e)
	}
	wantState(w.t, w.s, w.m.h.State())
}

// P5.8: all that the chapter says, whatever comes behind whatever.
func TestAsTheModel(t *testing.T) {
	r := rand.New(rand.NewSource(5))
	for range 1500 {
		w := newTwin(t, r)
		for range 120 {
			if r.Intn(3) == 0 {
				w.change()
			} else {
				w.act()
			}
			w.hold()
		}
	}
}

// P5.8: what was live is what it was behind every call but SetRoot. (An Abort
// takes also live objects away, if they were allocated since Begin.)
func TestLiveIsNotChanged(t *testing.T) {
	r := rand.New(rand.NewSource(8))
	for range 1000 {
		w := newTwin(t, r)
		for range 100 {
			if r.Intn(3) == 0 {
				w.change()
				continue
			}
			live, open := w.m.live(), w.m.open
			w.act()
			if open && !w.m.open {
				continue
			}
			wantThere(t, w.s.Heap(), live)
		}
	}
}

func wantThere(t *testing.T, h *heap.Heap, list []api.HeapObject) {
	t.Helper()
	for _, o := range list {
		class, _ := h.Class(o.Oop)
		n, format, e := h.Size(o.Oop)
		if e != api.OK || class != o.Class || n != len(o.Slots) || format != o.Format {
			t.Fatalf("%v became %d, %d, %d, %d", o, class, n, format, e)
		}
		for i, x := range o.Slots {
			if y, _ := h.At(o.Oop, i); y != x {
				t.Fatalf("%v has %d in its slot %d", o, y, i)
			}
		}
	}
}

// P5.8: behind an Abort the heap says what it said behind Begin, but for the
// mark, if nothing older was changed.
func TestAbortGivesAllBack(t *testing.T) {
	r := rand.New(rand.NewSource(9))
	for range 300 {
		w := newTwin(t, r)
		for range 40 {
			w.change()
			w.act()
		}
		w.s.Commit()
		wantErr(t, "Begin", w.s.Begin(), api.OK)
		was := w.s.Heap().State()
		for range r.Intn(12) {
			w.s.Alloc(4, r.Intn(6), r.Intn(2))
		}
		wantErr(t, "Abort", w.s.Abort(), api.OK)
		if was.Mark != 0 && w.s.Heap().Marked() == 0 {
			was.Mark = 0
		}
		wantState(t, w.s, was)
	}
}
