package heap_test

import (
	"math"
	"math/rand"
	"slices"
	"testing"

	"kiln/api"
	"kiln/heap"
)

// strange is ints that are no oop, no slot, no size, no word's edge.
var strange = []int{0, -1, -4, 4, 65536, 65537, 262144, 262148, 1 << 20, 1 << 31, 1<<32 + 1, -1 << 31, math.MaxInt, math.MinInt, math.MaxInt - 3, math.MinInt + 3}

// noWords is what is no word: beside each kind's ends, and far off.
var noWords = []api.Word{0, -2, -4, 16386, 262148, 1<<31 + 1, -1<<31 - 1, math.MaxInt, math.MinInt}

// someWords is words at each kind's ends.
var someWords = []api.Word{4, 262144, 2, 16382, 1, -1, 1<<31 - 1, -1<<31 + 1}

func made(t *testing.T, words, oops int) *heap.Heap {
	t.Helper()
	h, e := heap.New(words, oops)
	if h == nil || e != api.OK {
		t.Fatalf("New(%d, %d) = %v, %d", words, oops, h, e)
	}
	return h
}

func loaded(t *testing.T, s api.HeapState) *heap.Heap {
	t.Helper()
	h, e := heap.Load(s)
	if h == nil || e != api.OK {
		t.Fatalf("Load(%v) = %v, %d", s, h, e)
	}
	return h
}

func wantAlloc(t *testing.T, h *heap.Heap, class api.Word, n, format, oop int, want api.Errno) {
	t.Helper()
	if k, e := h.Alloc(class, n, format); k != oop || e != want {
		t.Fatalf("Alloc(%d, %d, %d) = %d, %d, want %d, %d", class, n, format, k, e, oop, want)
	}
}

func wantErr(t *testing.T, what string, got, want api.Errno) {
	t.Helper()
	if got != want {
		t.Fatalf("%s = %d, want %d", what, got, want)
	}
}

func wantAt(t *testing.T, h *heap.Heap, oop, i int, w api.Word, want api.Errno) {
	t.Helper()
	if x, e := h.At(oop, i); x != w || e != want {
		t.Fatalf("At(%d, %d) = %d, %d, want %d, %d", oop, i, x, e, w, want)
	}
}

func wantSize(t *testing.T, h *heap.Heap, oop, n, format int, want api.Errno) {
	t.Helper()
	if k, f, e := h.Size(oop); k != n || f != format || e != want {
		t.Fatalf("Size(%d) = %d, %d, %d, want %d, %d, %d", oop, k, f, e, n, format, want)
	}
}

func wantClass(t *testing.T, h *heap.Heap, oop int, class api.Word, want api.Errno) {
	t.Helper()
	if c, e := h.Class(oop); c != class || e != want {
		t.Fatalf("Class(%d) = %d, %d, want %d, %d", oop, c, e, class, want)
	}
}

func wantKeep(t *testing.T, h *heap.Heap, oops []int, away, nearer int, want api.Errno) {
	t.Helper()
	if a, n, e := h.Keep(oops); a != away || n != nearer || e != want {
		t.Fatalf("Keep(%v) = %d, %d, %d, want %d, %d, %d", oops, a, n, e, away, nearer, want)
	}
}

func wantRoom(t *testing.T, h *heap.Heap, words, oops int) {
	t.Helper()
	if w, o := h.Room(); w != words || o != oops {
		t.Fatalf("Room = %d, %d, want %d, %d", w, o, words, oops)
	}
}

func wantAll(t *testing.T, h *heap.Heap, oops ...int) {
	t.Helper()
	if got := h.All(); !slices.Equal(got, oops) {
		t.Fatalf("All = %v, want %v", got, oops)
	}
}

func wantMarked(t *testing.T, h *heap.Heap, k int) {
	t.Helper()
	if got := h.Marked(); got != k {
		t.Fatalf("Marked = %d, want %d", got, k)
	}
}

// wantState holds a heap against a state, nil and empty lists being the same.
func wantState(t *testing.T, h *heap.Heap, want api.HeapState) {
	t.Helper()
	got := h.State()
	same := slices.EqualFunc(got.Objects, want.Objects, func(a, b api.HeapObject) bool {
		return a.Oop == b.Oop && a.Class == b.Class && a.Format == b.Format && slices.Equal(a.Slots, b.Slots)
	})
	if !same || got.Words != want.Words || got.Oops != want.Oops || got.Mark != want.Mark {
		t.Fatalf("State = %v, want %v", got, want)
	}
}

func TestExamples(t *testing.T) {
	h := made(t, 20, 4)
	wantAlloc(t, h, 4, 3, 0, 1, api.OK)
	wantRoom(t, h, 15, 3)
	wantAlloc(t, h, 8, 5, 1, 2, api.OK)
	wantRoom(t, h, 11, 2)
	wantAt(t, h, 1, 2, 4, api.OK)
	wantAt(t, h, 2, 4, 0, api.OK)
	wantAt(t, h, 1, 3, 0, api.ErrSlot)
	wantAt(t, h, 3, 0, 0, api.ErrOop)
	wantErr(t, "Put(1, 0, 7)", h.Put(1, 0, 7), api.OK)
	wantErr(t, "Put(2, 0, 256)", h.Put(2, 0, 256), api.ErrWord)
	wantErr(t, "Put(1, 0, 0)", h.Put(1, 0, 0), api.ErrWord)
	wantErr(t, "Put(2, 0, 0)", h.Put(2, 0, 0), api.OK)
	wantAlloc(t, h, 0, 1, 0, 0, api.ErrArg)
	wantAlloc(t, h, 4, -1, 0, 0, api.ErrArg)
	wantAlloc(t, h, 4, 1, 2, 0, api.ErrArg)
	wantAlloc(t, h, 4, 8193, 0, 0, api.ErrSize)
	wantAlloc(t, h, 4, 10, 0, 0, api.ErrFull)
	wantErr(t, "Mark(2)", h.Mark(2), api.OK)
	wantAlloc(t, h, 4, 0, 0, 3, api.OK)
	wantAlloc(t, h, 4, 10, 0, 0, api.ErrFull)
	wantMarked(t, h, 1)
	wantAlloc(t, h, 4, 0, 0, 0, api.ErrMarked)
	wantMarked(t, h, 0)
	p := h.Point()
	wantAlloc(t, h, 4, 0, 0, 4, api.OK)
	wantAlloc(t, h, 4, 0, 0, 0, api.ErrFull)
	wantErr(t, "Back(p)", h.Back(p), api.OK)
	wantAll(t, h, 1, 2, 3)
	wantRoom(t, h, 9, 1)
	wantErr(t, "Back(p) again", h.Back(p), api.ErrPoint)
	wantErr(t, "Free(1)", h.Free(1), api.OK)
	wantRoom(t, h, 9, 2)
	wantAlloc(t, h, 4, 0, 0, 1, api.OK)
	wantErr(t, "Exchange(1, 2)", h.Exchange(1, 2), api.OK)
	wantSize(t, h, 1, 5, 1, api.OK)
	wantSize(t, h, 2, 0, 0, api.OK)
	wantKeep(t, h, []int{2, 1}, 1, 7, api.OK)
	wantAll(t, h, 1, 2)
	wantRoom(t, h, 14, 2)
	wantState(t, h, api.HeapState{Words: 20, Oops: 4, Objects: []api.HeapObject{
		{Oop: 1, Class: 8, Format: 1, Slots: make([]api.Word, 5)}, {Oop: 2, Class: 4},
	}})
	wantAlloc(t, made(t, 0, 0), 4, 0, 0, 0, api.ErrFull)
}

// P2.1, R3: nil, a Heap of no call, and a copy of one that a call made.
func TestHeapThatIsNotThere(t *testing.T) {
	real := made(t, 40, 4)
	wantAlloc(t, real, 4, 3, 0, 1, api.OK)
	wantErr(t, "Mark", real.Mark(3), api.OK)
	p, copied := real.Point(), *real
	for _, h := range []*heap.Heap{nil, {}, &copied} {
		wantAlloc(t, h, 0, -1, 7, 0, api.ErrNil)
		wantAlloc(t, h, 4, 1, 0, 0, api.ErrNil)
		wantClass(t, h, 1, 0, api.ErrNil)
		wantSize(t, h, 1, 0, 0, api.ErrNil)
		wantAt(t, h, 1, -1, 0, api.ErrNil)
		wantKeep(t, h, nil, 0, 0, api.ErrNil)
		wantKeep(t, h, []int{9}, 0, 0, api.ErrNil)
		for _, e := range []api.Errno{
			h.Mark(-1), h.Mark(1), h.Free(1), h.Free(0), h.SetClass(1, 4), h.SetClass(1, 0), h.Put(1, 0, 4), h.Put(9, 9, 0),
			h.Exchange(1, 1), h.Exchange(0, 9), h.Back(p), h.Back(h.Point()), h.Back(heap.Point{}),
		} {
			wantErr(t, "a call", e, api.ErrNil)
		}
		wantMarked(t, h, 0)
		wantAll(t, h)
		wantRoom(t, h, 0, 0)
		wantState(t, h, api.HeapState{})
		wantErr(t, "Back to a point of a heap that is not there", real.Back(h.Point()), api.ErrPoint)
	}
	wantState(t, real, api.HeapState{Words: 40, Oops: 4, Mark: 3, Objects: []api.HeapObject{{Oop: 1, Class: 4, Slots: []api.Word{4, 4, 4}}}})
}

// P2.1, R1: no int that is handed in lets a call panic, and none of those
// that are refused changes anything.
func TestStrangeNumbers(t *testing.T) {
	h := made(t, 100, 9)
	wantAlloc(t, h, 4, 3, 0, 1, api.OK)
	wantAlloc(t, h, 4, 3, 1, 2, api.OK)
	p, s := h.Point(), h.State()
	for _, k := range strange {
		if k == 4 {
			continue
		}
		wantErr(t, "Free", h.Free(k), api.ErrOop)
		wantClass(t, h, k, 0, api.ErrOop)
		wantSize(t, h, k, 0, 0, api.ErrOop)
		wantAt(t, h, k, 0, 0, api.ErrOop)
		wantAt(t, h, k, k, 0, api.ErrOop)
		wantErr(t, "SetClass", h.SetClass(k, 4), api.ErrOop)
		wantErr(t, "SetClass", h.SetClass(k, 0), api.ErrOop)
		wantErr(t, "Put", h.Put(k, 9, 0), api.ErrOop)
		wantErr(t, "Exchange", h.Exchange(1, k), api.ErrOop)
		wantErr(t, "Exchange", h.Exchange(k, 1), api.ErrOop)
		wantErr(t, "Exchange", h.Exchange(k, k), api.ErrOop)
		wantKeep(t, h, []int{1, k}, 0, 0, api.ErrOop)
		wantKeep(t, h, []int{k, 1}, 0, 0, api.ErrOop)
		for _, oop := range []int{1, 2} {
			if k != 0 {
				wantAt(t, h, oop, k, 0, api.ErrSlot)
				wantErr(t, "Put", h.Put(oop, k, 4), api.ErrSlot)
				wantErr(t, "Put", h.Put(oop, k, -4), api.ErrSlot)
			}
		}
		if k < 0 {
			wantAlloc(t, h, 4, k, 0, 0, api.ErrArg)
		} else if k > 8192 {
			wantAlloc(t, h, 4, k, 0, 0, api.ErrSize)
			wantAlloc(t, h, 4, k, 1, 0, api.ErrSize)
		}
	}
	wantState(t, h, s)
	wantErr(t, "Back", h.Back(p), api.OK)
}

// P2.1, R4: lists that are handed in stay as they are, spare room too, and
// are not kept; those in answers are new memory.
func TestLists(t *testing.T) {
	slots := []api.Word{7, 9, 11, 13}
	objects := []api.HeapObject{{Oop: 2, Class: 4, Slots: slots[:2]}, {Oop: 1, Class: 8, Format: 1, Slots: []api.Word{1, 2}}, {Oop: 77}}
	h := loaded(t, api.HeapState{Words: 30, Oops: 5, Objects: objects[:2]})
	want := h.State()
	if !slices.Equal(slots, []api.Word{7, 9, 11, 13}) || objects[2].Oop != 77 || objects[0].Oop != 2 {
		t.Fatalf("Load changed what it was given: %v, %v", slots, objects)
	}
	slots[0], objects[1].Slots[0], objects[1].Oop = 0, 99, 4
	wantState(t, h, want)

	told := h.State()
	for _, o := range told.Objects {
		for i := range o.Slots[:cap(o.Slots)] {
			o.Slots[:cap(o.Slots)][i] = 99
		}
	}
	clear(told.Objects[:cap(told.Objects)])
	all := h.All()
	for i := range all[:cap(all)] {
		all[:cap(all)][i] = 99
	}
	wantState(t, h, want)
	wantAll(t, h, 1, 2)

	list := []int{2, 1, 2, 5, 6}
	wantKeep(t, h, list[:3], 0, 0, api.OK)
	if !slices.Equal(list, []int{2, 1, 2, 5, 6}) {
		t.Fatalf("Keep changed its list: %v", list)
	}
	list[0] = 1
	wantState(t, h, want)
	wantKeep(t, h, []int{}, 2, 7, api.OK)
	wantState(t, h, api.HeapState{Words: 30, Oops: 5})
	wantState(t, loaded(t, api.HeapState{Objects: []api.HeapObject{}}), api.HeapState{})
}

// P2.1: no list of an answer reaches into another one's memory.
func TestListsOfOneAnswer(t *testing.T) {
	h := made(t, 60, 9)
	for range 5 {
		h.Alloc(4, 3, 0)
	}
	s, want := h.State(), h.State()
	for i, o := range s.Objects {
		s.Objects[i].Slots = append(o.Slots, 99, 99, 99)
	}
	for i, o := range s.Objects {
		if !slices.Equal(o.Slots[:3], want.Objects[i].Slots) {
			t.Fatalf("the slots of object %d are %v", o.Oop, o.Slots)
		}
	}
}

// P2.1: two heaps have nothing in common.
func TestTwoHeaps(t *testing.T) {
	a, b := made(t, 20, 4), made(t, 20, 4)
	wantAlloc(t, a, 4, 2, 0, 1, api.OK)
	wantErr(t, "Mark", a.Mark(5), api.OK)
	wantState(t, b, api.HeapState{Words: 20, Oops: 4})
	p := b.Point()
	wantAlloc(t, b, 8, 2, 0, 1, api.OK)
	wantErr(t, "Free", a.Free(1), api.OK)
	wantClass(t, b, 1, 8, api.OK)
	wantErr(t, "Back of the one's point in the other", a.Back(p), api.ErrPoint)
	wantErr(t, "Back", b.Back(p), api.OK)
	s := a.State()
	c, d := loaded(t, s), loaded(t, s)
	wantAlloc(t, c, 4, 1, 0, 1, api.OK)
	wantAll(t, d)
}

// P2.2.
func TestNew(t *testing.T) {
	for _, c := range [][2]int{{0, 0}, {1, 1}, {1 << 20, 65536}, {0, 65536}, {1 << 20, 0}} {
		h := made(t, c[0], c[1])
		wantRoom(t, h, c[0], c[1])
		wantMarked(t, h, 0)
		wantAll(t, h)
		wantState(t, h, api.HeapState{Words: c[0], Oops: c[1]})
	}
	for _, c := range [][2]int{{-1, 0}, {0, -1}, {1<<20 + 1, 0}, {0, 65537}, {-1, -1}, {math.MaxInt, 4}, {4, math.MinInt}} {
		if h, e := heap.New(c[0], c[1]); h != nil || e != api.ErrArg {
			t.Errorf("New(%d, %d) = %v, %d", c[0], c[1], h, e)
		}
	}
}

// P2.3: what is refused, and in which order.
func TestAllocRefuses(t *testing.T) {
	h := made(t, 10, 1)
	wantErr(t, "Mark", h.Mark(1), api.OK)
	for _, w := range noWords {
		wantAlloc(t, h, w, 8193, 0, 0, api.ErrArg)
	}
	for _, format := range []int{-1, 2, 3, math.MaxInt, math.MinInt} {
		wantAlloc(t, h, 4, 8193, format, 0, api.ErrArg)
	}
	wantAlloc(t, h, 4, -1, 1, 0, api.ErrArg)
	wantAlloc(t, h, 4, 8193, 0, 0, api.ErrSize)
	wantAlloc(t, h, 4, math.MaxInt, 1, 0, api.ErrSize)
	wantAlloc(t, h, 4, 8192, 0, 0, api.ErrFull)
	wantAlloc(t, h, 4, 9, 0, 0, api.ErrFull)
	wantAlloc(t, h, 4, 33, 1, 0, api.ErrFull)
	wantMarked(t, h, 1)
	wantAlloc(t, h, 4, 8, 0, 0, api.ErrMarked)
	wantState(t, h, api.HeapState{Words: 10, Oops: 1})
	wantAlloc(t, h, 4, 32, 1, 1, api.OK)
	wantAlloc(t, made(t, 9, 0), 4, 0, 0, 0, api.ErrFull)
	one := made(t, 9, 1)
	wantAlloc(t, one, 4, 0, 0, 1, api.OK)
	wantAlloc(t, one, 4, 0, 0, 0, api.ErrFull)
}

// P2.3: how long an object is, and what it is made of.
func TestAllocMakes(t *testing.T) {
	for _, c := range []struct{ n, format, length int }{
		{0, 0, 2}, {1, 0, 3}, {8192, 0, 8194}, {0, 1, 2}, {1, 1, 3}, {3, 1, 3}, {4, 1, 3}, {5, 1, 4}, {8, 1, 4}, {9, 1, 5}, {8191, 1, 2050}, {8192, 1, 2050},
	} {
		wantAlloc(t, made(t, c.length-1, 1), 4, c.n, c.format, 0, api.ErrFull)
		h := made(t, c.length, 1)
		wantAlloc(t, h, 4, c.n, c.format, 1, api.OK)
		wantRoom(t, h, 0, 0)
		wantSize(t, h, 1, c.n, c.format, api.OK)
		for i := range c.n {
			wantAt(t, h, 1, i, api.Word(4-4*c.format), api.OK)
		}
	}
	h := made(t, 100, 20)
	for i, w := range someWords {
		wantAlloc(t, h, w, 0, 0, i+1, api.OK)
		wantClass(t, h, i+1, w, api.OK)
	}
}

// P2.3: the lowest number that no object has.
func TestLowestOop(t *testing.T) {
	h := made(t, 1<<20, 300)
	for i := range 300 {
		wantAlloc(t, h, 4, 1, 0, i+1, api.OK)
	}
	for _, oop := range []int{299, 64, 1, 129, 65, 128, 300, 63} {
		wantErr(t, "Free", h.Free(oop), api.OK)
	}
	for _, oop := range []int{1, 63, 64, 65} {
		wantAlloc(t, h, 4, 0, 1, oop, api.OK)
	}
	wantErr(t, "Free", h.Free(2), api.OK)
	for _, oop := range []int{2, 128, 129, 299, 300} {
		wantAlloc(t, h, 4, 0, 1, oop, api.OK)
	}
	wantAlloc(t, h, 4, 0, 1, 0, api.ErrFull)
}

// P2.4.
func TestMark(t *testing.T) {
	h := made(t, 100, 9)
	for _, k := range []int{-1, 1<<30 + 1, math.MinInt, math.MaxInt} {
		wantErr(t, "Mark", h.Mark(k), api.ErrArg)
		wantMarked(t, h, 0)
	}
	for _, k := range []int{1 << 30, 5, 0, 3} {
		wantErr(t, "Mark", h.Mark(k), api.OK)
		wantMarked(t, h, k)
	}
	wantErr(t, "Mark", h.Mark(-7), api.ErrArg)
	wantMarked(t, h, 3)
	wantAlloc(t, h, 4, 1, 0, 1, api.OK)
	wantAlloc(t, h, 0, 1, 0, 0, api.ErrArg)
	wantAlloc(t, h, 4, 8193, 0, 0, api.ErrSize)
	wantAlloc(t, h, 4, 100, 0, 0, api.ErrFull)
	wantErr(t, "Put", h.Put(1, 0, 8), api.OK)
	wantMarked(t, h, 2)
	wantErr(t, "Free", h.Free(1), api.OK)
	wantAlloc(t, h, 4, 1, 0, 1, api.OK)
	wantMarked(t, h, 1)
	wantKeep(t, h, []int{1}, 0, 0, api.OK)
	wantMarked(t, h, 1)
	wantAlloc(t, h, 4, 1, 0, 0, api.ErrMarked)
	wantMarked(t, h, 0)
	wantAll(t, h, 1)
	wantAlloc(t, h, 4, 1, 0, 2, api.OK)
	wantMarked(t, h, 0)
	wantErr(t, "Mark", h.Mark(1), api.OK)
	wantErr(t, "Mark", h.Mark(0), api.OK)
	wantAlloc(t, h, 4, 1, 0, 3, api.OK)
}

// P2.5: the end is behind the object that lies last, whichever it is.
func TestFree(t *testing.T) {
	h := made(t, 20, 9)
	for i := range 4 {
		wantAlloc(t, h, 4, i, 0, i+1, api.OK)
	}
	wantRoom(t, h, 6, 5)
	wantErr(t, "Free(2)", h.Free(2), api.OK)
	wantErr(t, "Free(2) again", h.Free(2), api.ErrOop)
	wantRoom(t, h, 6, 6)
	wantErr(t, "Free(3)", h.Free(3), api.OK)
	wantRoom(t, h, 6, 7)
	wantAll(t, h, 1, 4)
	wantErr(t, "Free(4)", h.Free(4), api.OK)
	wantRoom(t, h, 18, 8)
	wantAlloc(t, h, 4, 16, 0, 2, api.OK)
	for i := range 16 {
		wantAt(t, h, 2, i, 4, api.OK)
	}
	wantErr(t, "Free(1)", h.Free(1), api.OK)
	wantRoom(t, h, 0, 8)
	wantErr(t, "Free(2)", h.Free(2), api.OK)
	wantRoom(t, h, 20, 9)
	wantErr(t, "Free(0)", h.Free(0), api.ErrOop)
	wantAlloc(t, h, 4, 72, 1, 1, api.OK)
	for i := range 72 {
		wantAt(t, h, 1, i, 0, api.OK)
	}
}

// P2.6.
func TestSlotsOfWords(t *testing.T) {
	h := made(t, 30, 3)
	wantAlloc(t, h, 8, 3, 0, 1, api.OK)
	wantAlloc(t, h, 8, 0, 0, 2, api.OK)
	wantAt(t, h, 2, 0, 0, api.ErrSlot)
	for _, w := range someWords {
		wantErr(t, "Put", h.Put(1, 1, w), api.OK)
		wantAt(t, h, 1, 1, w, api.OK)
		wantErr(t, "SetClass", h.SetClass(1, w), api.OK)
		wantClass(t, h, 1, w, api.OK)
		for _, bad := range noWords {
			wantErr(t, "Put", h.Put(1, 1, bad), api.ErrWord)
			wantErr(t, "SetClass", h.SetClass(1, bad), api.ErrWord)
			wantErr(t, "Put where no slot is", h.Put(1, 3, bad), api.ErrSlot)
			wantErr(t, "Put where no object is", h.Put(3, 3, bad), api.ErrOop)
			wantErr(t, "SetClass where no object is", h.SetClass(3, bad), api.ErrOop)
		}
		wantAt(t, h, 1, 1, w, api.OK)
		wantClass(t, h, 1, w, api.OK)
	}
	wantAt(t, h, 1, 0, 4, api.OK)
	wantAt(t, h, 1, 2, 4, api.OK)
	wantAt(t, h, 1, 3, 0, api.ErrSlot)
	wantAt(t, h, 1, -1, 0, api.ErrSlot)
	wantSize(t, h, 1, 3, 0, api.OK)
	wantClass(t, h, 2, 8, api.OK)
}

// P2.6: slots of bytes, each its own though they share words.
func TestSlotsOfBytes(t *testing.T) {
	h := made(t, 30, 3)
	wantAlloc(t, h, 8, 11, 1, 1, api.OK)
	wantAlloc(t, h, 8, 1, 0, 2, api.OK)
	want := make([]api.Word, 11)
	for round := range 3 {
		for i := range 11 {
			w := api.Word((i*97 + round*255 + 255) % 256)
			want[i] = w
			wantErr(t, "Put", h.Put(1, i, w), api.OK)
			for k := range 11 {
				wantAt(t, h, 1, k, want[k], api.OK)
			}
		}
	}
	for w := range api.Word(256) {
		wantErr(t, "Put", h.Put(1, 7, w), api.OK)
		wantAt(t, h, 1, 7, w, api.OK)
	}
	for _, w := range []api.Word{-1, 256, 1 << 8, 1 << 32, math.MinInt, math.MaxInt} {
		wantErr(t, "Put", h.Put(1, 7, w), api.ErrWord)
		wantErr(t, "Put where no slot is", h.Put(1, 11, w), api.ErrSlot)
	}
	wantAt(t, h, 1, 7, 255, api.OK)
	wantAt(t, h, 1, 6, want[6], api.OK)
	wantAt(t, h, 1, 8, want[8], api.OK)
	wantAt(t, h, 1, 11, 0, api.ErrSlot)
	wantClass(t, h, 1, 8, api.OK)
	wantSize(t, h, 1, 11, 1, api.OK)
	wantAt(t, h, 2, 0, 4, api.OK)
	wantErr(t, "SetClass", h.SetClass(1, 2), api.OK)
	wantClass(t, h, 1, 2, api.OK)
	wantErr(t, "SetClass", h.SetClass(1, 0), api.ErrWord)
}

// P2.7: class, format, slots and place change hands, and the words that name
// the two do not.
func TestExchange(t *testing.T) {
	h := loaded(t, api.HeapState{Words: 20, Oops: 4, Objects: []api.HeapObject{
		{Oop: 1, Class: 4, Slots: []api.Word{8, 4}}, {Oop: 2, Class: 8, Format: 1, Slots: []api.Word{1, 2, 3, 4, 5}}, {Oop: 3, Class: 12},
	}})
	before := h.State()
	wantErr(t, "Exchange(1, 2)", h.Exchange(1, 2), api.OK)
	after := h.State()
	after.Objects[0].Oop, after.Objects[1].Oop = after.Objects[1].Oop, after.Objects[0].Oop
	if after.Objects[0].Oop != 1 || after.Objects[1].Oop != 2 {
		t.Fatalf("Exchange left the places: %v", h.State())
	}
	wantClass(t, h, 1, 8, api.OK)
	wantSize(t, h, 1, 5, 1, api.OK)
	wantAt(t, h, 1, 4, 5, api.OK)
	wantClass(t, h, 2, 4, api.OK)
	wantSize(t, h, 2, 2, 0, api.OK)
	wantAt(t, h, 2, 0, 8, api.OK)
	wantAt(t, h, 2, 1, 4, api.OK)
	wantErr(t, "Exchange(2, 2)", h.Exchange(2, 2), api.OK)
	wantErr(t, "Exchange(2, 1)", h.Exchange(2, 1), api.OK)
	wantState(t, h, before)
	wantErr(t, "Exchange(1, 4)", h.Exchange(1, 4), api.ErrOop)
	wantErr(t, "Exchange(4, 1)", h.Exchange(4, 1), api.ErrOop)
	wantErr(t, "Exchange(1, 3)", h.Exchange(1, 3), api.OK)
	wantRoom(t, h, 10, 1)
	wantErr(t, "Free(1), which lies last", h.Free(1), api.OK)
	wantRoom(t, h, 12, 2)
	wantAlloc(t, h, 16, 0, 0, 1, api.OK)
	wantErr(t, "Exchange(1, 3) again", h.Exchange(1, 3), api.OK)
	wantKeep(t, h, []int{1, 3}, 1, 4, api.OK)
	wantState(t, h, api.HeapState{Words: 20, Oops: 4, Objects: []api.HeapObject{
		{Oop: 1, Class: 4, Slots: []api.Word{8, 4}}, {Oop: 3, Class: 16},
	}})
}

// P2.8: what makes a point void, and what does not.
func TestPointsBecomeVoid(t *testing.T) {
	h := made(t, 100, 9)
	wantAlloc(t, h, 4, 1, 0, 1, api.OK)
	wantAlloc(t, h, 4, 1, 0, 2, api.OK)
	for _, c := range []struct {
		name string
		call func() api.Errno
		void bool
	}{
		{"Free", func() api.Errno { return h.Free(3) }, true},
		{"Free of an old one", func() api.Errno { return h.Free(2) }, true},
		{"Exchange", func() api.Errno { return h.Exchange(1, 3) }, true},
		{"Exchange with itself", func() api.Errno { return h.Exchange(1, 1) }, true},
		{"Keep", func() api.Errno { _, _, e := h.Keep([]int{1}); return e }, true},
		{"Keep of all", func() api.Errno { _, _, e := h.Keep(h.All()); return e }, true},
		{"Back to a later point", func() api.Errno { return h.Back(h.Point()) }, true},
		{"Put", func() api.Errno { return h.Put(1, 0, 9) }, false},
		{"SetClass", func() api.Errno { return h.SetClass(1, 9) }, false},
		{"Mark", func() api.Errno { return h.Mark(0) }, false},
		{"Alloc", func() api.Errno { _, e := h.Alloc(4, 0, 0); return e }, false},
		{"State", func() api.Errno { h.State(); return api.OK }, false},
		{"a second point", func() api.Errno { h.Point(); return api.OK }, false},
	} {
		h.Keep([]int{1})
		wantAlloc(t, h, 4, 1, 0, 2, api.OK)
		p := h.Point()
		wantAlloc(t, h, 4, 1, 0, 3, api.OK)
		wantErr(t, c.name, c.call(), api.OK)
		want := api.OK
		if c.void {
			want = api.ErrPoint
		}
		wantErr(t, "Back behind "+c.name, h.Back(p), want)
		wantErr(t, "Back again", h.Back(p), api.ErrPoint)
	}
	p := h.Point()
	wantErr(t, "Free", h.Free(9), api.ErrOop)
	wantErr(t, "Exchange", h.Exchange(1, 9), api.ErrOop)
	wantKeep(t, h, []int{9}, 0, 0, api.ErrOop)
	wantErr(t, "Back to no point", h.Back(heap.Point{}), api.ErrPoint)
	wantErr(t, "Back", h.Back(p), api.OK)
}

// P2.8, P2.12: behind Back the heap says what it said, but for the mark and
// for what was changed in older objects.
func TestBack(t *testing.T) {
	h := made(t, 60, 9)
	for i := range 4 {
		wantAlloc(t, h, 4, 2, 0, i+1, api.OK)
	}
	wantErr(t, "Free", h.Free(2), api.OK)
	s := h.State()
	words, oops := h.Room()
	p, q := h.Point(), h.Point()
	wantErr(t, "Mark", h.Mark(9), api.OK)
	for _, oop := range []int{2, 5, 6} {
		wantAlloc(t, h, 8, 3, 1, oop, api.OK)
		wantErr(t, "Put", h.Put(oop, 1, 77), api.OK)
	}
	wantErr(t, "Put", h.Put(3, 0, 11), api.OK)
	wantErr(t, "SetClass", h.SetClass(4, 6), api.OK)
	r := h.Point()
	wantErr(t, "Back", h.Back(p), api.OK)
	s.Mark, s.Objects[1].Slots[0], s.Objects[2].Class = 6, 11, 6
	wantState(t, h, s)
	wantRoom(t, h, words, oops)
	wantAll(t, h, 1, 3, 4)
	for _, p := range []heap.Point{p, q, r} {
		wantErr(t, "Back to a void point", h.Back(p), api.ErrPoint)
	}
	wantAlloc(t, h, 8, 3, 0, 2, api.OK)
	wantAt(t, h, 2, 1, 4, api.OK)

	q, _ = h.Point(), h.Mark(2)
	wantAlloc(t, h, 4, 0, 0, 5, api.OK)
	r = h.Point()
	wantAlloc(t, h, 4, 0, 0, 0, api.ErrMarked)
	wantErr(t, "Back to the later of two points", h.Back(r), api.OK)
	wantAll(t, h, 1, 2, 3, 4, 5)
	wantErr(t, "Back to the earlier one", h.Back(q), api.ErrPoint)
	empty := made(t, 9, 3)
	start := empty.Point()
	wantAlloc(t, empty, 4, 7, 0, 1, api.OK)
	wantErr(t, "Back to the beginning", empty.Back(start), api.OK)
	wantState(t, empty, api.HeapState{Words: 9, Oops: 3})
}

// P2.9.
func TestKeep(t *testing.T) {
	h := made(t, 60, 9)
	for i := range 6 {
		wantAlloc(t, h, api.Word(4*i+4), i, i%2, i+1, api.OK)
		for k := range i {
			wantErr(t, "Put", h.Put(i+1, k, api.Word(2*k+1)), api.OK)
		}
	}
	s := h.State()
	wantKeep(t, h, []int{3, 7}, 0, 0, api.ErrOop)
	wantKeep(t, h, []int{0}, 0, 0, api.ErrOop)
	wantState(t, h, s)
	wantKeep(t, h, []int{6, 5, 4, 3, 2, 1, 1}, 0, 0, api.OK)
	wantState(t, h, s)
	wantErr(t, "Free(1)", h.Free(1), api.OK)
	wantErr(t, "Free(4)", h.Free(4), api.OK)
	words, _ := h.Room()
	wantKeep(t, h, []int{6, 3, 6, 5}, 1, 8, api.OK)
	wantRoom(t, h, words+8, 6)
	s.Objects = []api.HeapObject{s.Objects[2], s.Objects[4], s.Objects[5]}
	wantState(t, h, s)
	wantAlloc(t, h, 4, 0, 0, 1, api.OK)
	wantAlloc(t, h, 4, 9, 0, 2, api.OK)
	for i := range 9 {
		wantAt(t, h, 2, i, 4, api.OK)
	}
	wantAlloc(t, h, 4, 5, 1, 4, api.OK)
	words, _ = h.Room()
	wantKeep(t, h, nil, 6, 60-words, api.OK)
	wantState(t, h, api.HeapState{Words: 60, Oops: 9})
	wantKeep(t, h, nil, 0, 0, api.OK)
}

// P2.10.
func TestAllAndRoom(t *testing.T) {
	h := made(t, 1<<20, 65536)
	for i := range 65536 {
		wantAlloc(t, h, 4, 0, 0, i+1, api.OK)
	}
	wantRoom(t, h, 1<<20-2*65536, 0)
	wantAlloc(t, h, 4, 0, 0, 0, api.ErrFull)
	for i := 65536; i > 3; i-- {
		wantErr(t, "Free", h.Free(i), api.OK)
	}
	wantAll(t, h, 1, 2, 3)
	wantRoom(t, h, 1<<20-6, 65533)
	wide := made(t, 1<<20, 65536)
	for i := range 127 {
		wantAlloc(t, wide, 4, 8192, 0, i+1, api.OK)
	}
	wantRoom(t, wide, 1<<20-127*8194, 65536-127)
	wantAlloc(t, wide, 4, 8192, 0, 0, api.ErrFull)
	wantAlloc(t, wide, 4, 7936, 0, 128, api.OK)
	wantRoom(t, wide, 0, 65536-128)
}

// good is a state whose objects fill its words.
func good() api.HeapState {
	return api.HeapState{Words: 8, Oops: 5, Mark: 3, Objects: []api.HeapObject{
		{Oop: 5, Class: 4, Slots: []api.Word{7, 9}}, {Oop: 2, Class: 8, Format: 1, Slots: []api.Word{255, 0, 1, 2, 3}},
	}}
}

// P2.11: what is told is what was loaded, and goes on from there.
func TestLoadTakes(t *testing.T) {
	h := loaded(t, good())
	wantState(t, h, good())
	wantMarked(t, h, 3)
	wantRoom(t, h, 0, 3)
	wantAll(t, h, 2, 5)
	wantAt(t, h, 2, 0, 255, api.OK)
	wantErr(t, "Free", h.Free(5), api.OK)
	wantRoom(t, h, 0, 4)
	wantKeep(t, h, []int{2}, 0, 4, api.OK)
	wantAlloc(t, h, 4, 0, 0, 1, api.OK)
	wantAlloc(t, h, 4, 0, 0, 3, api.OK)
	wantMarked(t, h, 1)
	for _, s := range []api.HeapState{
		{}, {Mark: 1 << 30}, {Words: 1 << 20, Oops: 65536},
		{Words: 2, Oops: 65536, Objects: []api.HeapObject{{Oop: 65536, Class: 262144}}},
		{Words: 8194, Oops: 1, Objects: []api.HeapObject{{Oop: 1, Class: 2, Slots: slices.Repeat([]api.Word{-1}, 8192)}}},
		{Words: 2050, Oops: 1, Objects: []api.HeapObject{{Oop: 1, Class: 2, Format: 1, Slots: slices.Repeat([]api.Word{254}, 8192)}}},
	} {
		wantState(t, loaded(t, s), s)
	}
}

// P2.11: what is no state.
func TestLoadRefuses(t *testing.T) {
	for i, c := range []struct {
		turn func(s *api.HeapState)
		want api.Errno
	}{
		{func(s *api.HeapState) { s.Words = -1 }, api.ErrArg},
		{func(s *api.HeapState) { s.Words = 1<<20 + 1 }, api.ErrArg},
		{func(s *api.HeapState) { s.Oops = -1 }, api.ErrArg},
		{func(s *api.HeapState) { s.Oops = 65537 }, api.ErrArg},
		{func(s *api.HeapState) { s.Mark = -1 }, api.ErrArg},
		{func(s *api.HeapState) { s.Mark = 1<<30 + 1 }, api.ErrArg},
		{func(s *api.HeapState) { s.Mark, s.Objects[0].Oop = -1, 0 }, api.ErrArg},
		{func(s *api.HeapState) { s.Words = 7 }, api.ErrHeap},
		{func(s *api.HeapState) { s.Oops = 4 }, api.ErrHeap},
		{func(s *api.HeapState) { s.Oops = 0 }, api.ErrHeap},
		{func(s *api.HeapState) { s.Objects[1].Oop = 5 }, api.ErrHeap},
		{func(s *api.HeapState) { s.Objects[1].Oop = 0 }, api.ErrHeap},
		{func(s *api.HeapState) { s.Objects[1].Oop = -2 }, api.ErrHeap},
		{func(s *api.HeapState) { s.Objects[0].Oop = 6 }, api.ErrHeap},
		{func(s *api.HeapState) { s.Objects[0].Oop = math.MinInt }, api.ErrHeap},
		{func(s *api.HeapState) { s.Objects[0].Oop = math.MaxInt }, api.ErrHeap},
		{func(s *api.HeapState) { s.Objects[0].Class = 0 }, api.ErrHeap},
		{func(s *api.HeapState) { s.Objects[1].Class = -2 }, api.ErrHeap},
		{func(s *api.HeapState) { s.Objects[0].Format = 2 }, api.ErrHeap},
		{func(s *api.HeapState) { s.Objects[1].Format = -1 }, api.ErrHeap},
		{func(s *api.HeapState) { s.Objects[0].Slots[1] = 0 }, api.ErrHeap},
		{func(s *api.HeapState) { s.Objects[0].Slots[0] = 16386 }, api.ErrHeap},
		{func(s *api.HeapState) { s.Objects[1].Slots[4] = 256 }, api.ErrHeap},
		{func(s *api.HeapState) { s.Objects[1].Slots[0] = -1 }, api.ErrHeap},
		{func(s *api.HeapState) { s.Objects[1].Slots = make([]api.Word, 9) }, api.ErrHeap},
		{func(s *api.HeapState) { s.Words, s.Objects[1].Slots = 1<<20, make([]api.Word, 8193) }, api.ErrHeap},
		{func(s *api.HeapState) {
			s.Words, s.Objects[0].Slots = 1<<20, slices.Repeat([]api.Word{4}, 8193)
		}, api.ErrHeap},
		{func(s *api.HeapState) { s.Objects = append(s.Objects, api.HeapObject{Oop: 1, Class: 4}) }, api.ErrHeap},
	} {
		s := good()
		c.turn(&s)
		if h, e := heap.Load(s); h != nil || e != c.want {
			t.Errorf("row %d: Load = %v, %d, want %d", i, h, e, c.want)
		}
	}
}

// twin is a heap and a model that are told the same.
type twin struct {
	t     *testing.T
	r     *rand.Rand
	h     *heap.Heap
	m     *model
	point heap.Point
	then  int
	good  bool // the point is not void
}

func newTwin(t *testing.T, r *rand.Rand) *twin {
	words, oops := r.Intn(120), r.Intn(90)
	return &twin{t: t, r: r, h: made(t, words, oops), m: newModel(words, oops)}
}

// oop is mostly that of an object.
func (w *twin) oop() int {
	if all := w.m.all(); len(all) > 0 && w.r.Intn(12) > 0 {
		return all[w.r.Intn(len(all))]
	}
	return w.r.Intn(w.m.oops+4) - 2
}

// word is mostly one, and often a byte too.
func (w *twin) word() api.Word {
	if w.r.Intn(3) == 0 {
		return api.Word(w.r.Intn(300) - 20)
	}
	return someWords[w.r.Intn(len(someWords))]
}

// act does one thing to both.
func (w *twin) act() {
	w.t.Helper()
	switch w.r.Intn(24) {
	case 0, 1:
		oop := w.oop()
		want := w.m.free(oop)
		wantErr(w.t, "Free", w.h.Free(oop), want)
		w.good = w.good && want != api.OK
	case 2:
		a, b := w.oop(), w.oop()
		want := w.m.exchange(a, b)
		wantErr(w.t, "Exchange", w.h.Exchange(a, b), want)
		w.good = w.good && want != api.OK
	case 3:
		w.keep()
	case 4:
		k := w.r.Intn(12) - 2
		if want := w.h.Mark(k); want == api.OK {
			w.m.mark = k
		} else if k >= 0 {
			w.t.Fatalf("Mark(%d) = %d", k, want)
		}
	case 5, 6:
		w.point, w.then, w.good = w.h.Point(), w.m.now, true
	case 7:
		w.back()
	case 8, 9, 10, 11:
		oop, i, x := w.oop(), w.r.Intn(14)-1, w.word()
		wantErr(w.t, "Put", w.h.Put(oop, i, x), w.m.put(oop, i, x))
	case 12:
		oop, x := w.oop(), w.word()
		wantErr(w.t, "SetClass", w.h.SetClass(oop, x), w.m.setClass(oop, x))
	case 13:
		w.reload()
	default:
		class, n, format := w.word(), w.r.Intn(14)-1, w.r.Intn(2)
		oop, want := w.m.alloc(class, n, format)
		wantAlloc(w.t, w.h, class, n, format, oop, want)
	}
}

func (w *twin) keep() {
	w.t.Helper()
	list := w.m.all()
	w.r.Shuffle(len(list), func(i, k int) { list[i], list[k] = list[k], list[i] })
	list = list[:w.r.Intn(len(list)+1)]
	if len(list) > 0 {
		list = append(list, list[0])
	}
	if w.r.Intn(8) == 0 {
		list = append(list, w.oop())
	}
	away, nearer, want := w.m.keep(list)
	wantKeep(w.t, w.h, list, away, nearer, want)
	w.good = w.good && want != api.OK
}

func (w *twin) back() {
	w.t.Helper()
	want := api.ErrPoint
	if w.good {
		want = api.OK
		w.m.back(w.then)
	}
	wantErr(w.t, "Back", w.h.Back(w.point), want)
	w.good = false
}

// reload goes on with the heap of the heap's state; so idle words are gone.
func (w *twin) reload() {
	w.t.Helper()
	w.h = loaded(w.t, w.h.State())
	w.m.pack()
	w.good = false
}

func (w *twin) hold() {
	w.t.Helper()
	wantState(w.t, w.h, w.m.state())
	wantAll(w.t, w.h, w.m.all()...)
	wantRoom(w.t, w.h, w.m.words-w.m.end(), w.m.oops-len(w.m.things))
	wantMarked(w.t, w.h, w.m.mark)
	for _, o := range w.m.things {
		wantClass(w.t, w.h, o.Oop, o.Class, api.OK)
		wantSize(w.t, w.h, o.Oop, len(o.Slots), o.Format, api.OK)
		for i, x := range o.Slots {
			wantAt(w.t, w.h, o.Oop, i, x, api.OK)
		}
	}
}

// P2.12: an object is what it was made and what was put into it, whatever is
// done beside it; and the heap of a heap's state goes on as it does.
func TestAsTheModel(t *testing.T) {
	r := rand.New(rand.NewSource(2))
	for range 400 {
		w := newTwin(t, r)
		for range 150 {
			w.act()
			w.hold()
		}
	}
}
