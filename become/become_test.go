package become_test

import (
	"math"
	"math/rand"
	"slices"
	"testing"

	"kiln/api"
	"kiln/become"
	"kiln/collect"
	"kiln/heap"
)

// noOops is numbers that no object of the heap of the examples has.
var noOops = []int{0, -1, -4, 5, 9, 10, 65536, 65537, 1 << 31, 1<<32 + 1, math.MaxInt, math.MinInt}

func list(oops ...int) []int { return oops }

func words(list ...api.Word) []api.Word { return list }

func loaded(t *testing.T, s api.HeapState) *heap.Heap {
	t.Helper()
	h, e := heap.Load(s)
	if h == nil || e != api.OK {
		t.Fatalf("Load = %v, %d", h, e)
	}
	return h
}

// four is the heap of the chapter's examples.
func four(t *testing.T) *heap.Heap {
	t.Helper()
	return loaded(t, api.HeapState{Words: 40, Oops: 9, Objects: []api.HeapObject{
		{Oop: 1, Class: 4, Slots: words(8, 12)},
		{Oop: 2, Class: 8, Slots: words(4)},
		{Oop: 3, Class: 4},
		{Oop: 4, Class: 12, Format: api.FormatBytes, Slots: words(8)},
	}})
}

func wantSwap(t *testing.T, h *heap.Heap, a, b []int, want api.Errno) {
	t.Helper()
	if e := become.Swap(h, a, b); e != want {
		t.Fatalf("Swap(%v, %v) = %d, want %d", a, b, e, want)
	}
}

func wantForward(t *testing.T, h *heap.Heap, a, b []int, n int, want api.Errno) {
	t.Helper()
	if k, e := become.Forward(h, a, b); k != n || e != want {
		t.Fatalf("Forward(%v, %v) = %d, %d, want %d, %d", a, b, k, e, n, want)
	}
}

// wantBoth holds both calls against one error; nothing has changed then.
func wantBoth(t *testing.T, h *heap.Heap, a, b []int, want api.Errno) {
	t.Helper()
	was, p := h.State(), h.Point()
	wantSwap(t, h, a, b, want)
	wantForward(t, h, a, b, 0, want)
	wantState(t, h, was)
	if h != nil && h.Back(p) != api.OK {
		t.Fatalf("a point is void behind %v, %v", a, b)
	}
}

// wantObjects holds a heap's objects against these, by rising oop.
func wantObjects(t *testing.T, h *heap.Heap, want ...api.HeapObject) {
	t.Helper()
	got := h.State().Objects
	slices.SortFunc(got, func(x, y api.HeapObject) int { return x.Oop - y.Oop })
	if !slices.EqualFunc(got, want, sameObject) {
		t.Fatalf("the objects are %v, want %v", got, want)
	}
}

func wantState(t *testing.T, h *heap.Heap, want api.HeapState) {
	t.Helper()
	got := h.State()
	if got.Words != want.Words || got.Oops != want.Oops || got.Mark != want.Mark || !slices.EqualFunc(got.Objects, want.Objects, sameObject) {
		t.Fatalf("State = %v, want %v", got, want)
	}
}

func sameObject(x, y api.HeapObject) bool {
	return x.Oop == y.Oop && x.Class == y.Class && x.Format == y.Format && slices.Equal(x.Slots, y.Slots)
}

func TestExamples(t *testing.T) {
	bytes := api.HeapObject{Oop: 4, Class: 12, Format: 1, Slots: words(8)}
	h := four(t)
	wantSwap(t, h, list(1), list(2), api.OK)
	wantObjects(t, h, api.HeapObject{Oop: 1, Class: 8, Slots: words(4)}, api.HeapObject{Oop: 2, Class: 4, Slots: words(8, 12)}, api.HeapObject{Oop: 3, Class: 4}, bytes)

	h = four(t)
	wantSwap(t, h, list(1, 2), list(3, 4), api.OK)
	wantObjects(t, h, api.HeapObject{Oop: 1, Class: 4}, api.HeapObject{Oop: 2, Class: 12, Format: 1, Slots: words(8)}, api.HeapObject{Oop: 3, Class: 4, Slots: words(8, 12)}, api.HeapObject{Oop: 4, Class: 8, Slots: words(4)})

	h = four(t)
	wantSwap(t, h, list(1), list(1), api.ErrBecome)
	wantSwap(t, h, list(1, 1), list(2, 3), api.ErrBecome)
	wantSwap(t, h, list(1, 2), list(2, 3), api.ErrBecome)
	wantSwap(t, h, list(1), nil, api.ErrBecome)
	wantSwap(t, h, list(1, 9), list(2, 1), api.ErrOop)
	p := h.Point()
	wantSwap(t, h, nil, nil, api.OK)
	if e := h.Back(p); e != api.OK {
		t.Fatalf("Back = %d", e)
	}

	wantForward(t, h, list(2), list(3), 2, api.OK)
	wantObjects(t, h, api.HeapObject{Oop: 1, Class: 4, Slots: words(12, 12)}, api.HeapObject{Oop: 2, Class: 12, Slots: words(4)}, api.HeapObject{Oop: 3, Class: 4}, bytes)

	h = four(t)
	wantForward(t, h, list(3), list(1), 2, api.OK)
	wantObjects(t, h, api.HeapObject{Oop: 1, Class: 4, Slots: words(8, 4)}, api.HeapObject{Oop: 2, Class: 8, Slots: words(4)}, api.HeapObject{Oop: 3, Class: 4}, api.HeapObject{Oop: 4, Class: 4, Format: 1, Slots: words(8)})

	wantForward(t, nil, nil, nil, 0, api.ErrNil)
}

// P4.1: of the errors that apply the first one is told, and nothing is done.
func TestRefused(t *testing.T) {
	h := four(t)
	h.Mark(3)
	for _, c := range []struct{ a, b []int }{{nil, nil}, {list(), list()}, {list(1), nil}, {list(9), list(1, 1)}, {list(1), list(2)}} {
		wantBoth(t, nil, c.a, c.b, api.ErrNil)
	}
	for _, c := range []struct{ a, b []int }{
		{list(1), nil}, {nil, list(1)}, {list(1, 2), list(3)}, {list(3), list(1, 2)},
		{list(9), nil}, {nil, list(0)}, {list(9, 9), list(9)}, {list(1, 1), list(1)},
	} {
		wantBoth(t, h, c.a, c.b, api.ErrBecome)
	}
	for _, k := range noOops {
		wantBoth(t, h, list(k), list(1), api.ErrOop)
		wantBoth(t, h, list(1), list(k), api.ErrOop)
		wantBoth(t, h, list(k), list(k), api.ErrOop)
		wantBoth(t, h, list(1, k), list(2, 3), api.ErrOop)
		wantBoth(t, h, list(1, 2), list(3, k), api.ErrOop)
		wantBoth(t, h, list(1, 1, k), list(1, 1, 1), api.ErrOop)
		wantBoth(t, h, list(1, 1, 1), list(1, 1, k), api.ErrOop)
	}
	for _, c := range []struct{ a, b []int }{
		{list(1), list(1)}, {list(4), list(4)}, {list(1, 1), list(2, 3)}, {list(2, 3), list(1, 1)}, {list(1, 2), list(2, 3)},
		{list(2, 1), list(3, 2)}, {list(1, 2), list(2, 1)}, {list(1, 1), list(2, 2)}, {list(1, 2), list(3, 2)},
		{list(1, 2, 1), list(3, 4, 3)}, {list(1, 2, 3), list(4, 1, 2)}, {make200(1), make200(2)},
	} {
		wantBoth(t, h, c.a, c.b, api.ErrBecome)
	}
}

// make200 is a list that is longer than the heap has objects.
func make200(oop int) []int { return slices.Repeat(list(oop), 200) }

// P4.1: an object that was freed has no oop any more.
func TestFreed(t *testing.T) {
	h := four(t)
	if e := h.Free(2); e != api.OK {
		t.Fatalf("Free = %d", e)
	}
	wantBoth(t, h, list(1), list(2), api.ErrOop)
	wantBoth(t, h, list(2), list(1), api.ErrOop)
	wantForward(t, h, list(3), list(1), 2, api.OK)
	wantObjects(t, h, api.HeapObject{Oop: 1, Class: 4, Slots: words(8, 4)}, api.HeapObject{Oop: 3, Class: 4}, api.HeapObject{Oop: 4, Class: 4, Format: 1, Slots: words(8)})
}

// P4.1: the lists stay as they are, with what lies behind them, and are not kept.
func TestLists(t *testing.T) {
	a, b := list(1, 2, 77, 78), list(3, 4, 79, 80)
	wantLists := func() {
		t.Helper()
		if !slices.Equal(a, list(1, 2, 77, 78)) || !slices.Equal(b, list(3, 4, 79, 80)) {
			t.Fatalf("the lists are %v, %v", a, b)
		}
	}
	h := four(t)
	wantSwap(t, h, a[:2], b[:2], api.OK)
	wantLists()
	wantForward(t, h, a[:2], b[:2], 5, api.OK)
	wantLists()
	wantBoth(t, h, a[:3], b[:3], api.ErrOop)
	wantBoth(t, h, a[:2], b[:3], api.ErrBecome)
	wantLists()
	was := h.State()
	a[0], b[0] = 3, 1
	wantState(t, h, was)
	one := list(1, 2, 3, 4)
	wantSwap(t, four(t), one[:2], one[2:], api.OK)
	if !slices.Equal(one, list(1, 2, 3, 4)) {
		t.Fatalf("the list is %v", one)
	}
}

// A heap that no call made: it is left unsaid what is answered, but it ends.
func TestHeapOfNoCall(t *testing.T) {
	for _, c := range []struct{ a, b []int }{{nil, nil}, {list(1), list(2)}, {list(1), list(1)}, {list(1), nil}} {
		become.Swap(&heap.Heap{}, c.a, c.b)
		become.Forward(&heap.Heap{}, c.a, c.b)
	}
}

// P4.2: the places change hands too, and the words in the slots stay.
func TestSwapPlaces(t *testing.T) {
	h := four(t)
	h.Mark(3)
	wantSwap(t, h, list(4, 2), list(1, 3), api.OK)
	wantState(t, h, api.HeapState{Words: 40, Oops: 9, Mark: 3, Objects: []api.HeapObject{
		{Oop: 4, Class: 4, Slots: words(8, 12)},
		{Oop: 3, Class: 8, Slots: words(4)},
		{Oop: 2, Class: 4},
		{Oop: 1, Class: 12, Format: api.FormatBytes, Slots: words(8)},
	}})
}

// P4.2: a point is void just if something was exchanged.
func TestSwapPoints(t *testing.T) {
	h := four(t)
	p := h.Point()
	wantSwap(t, h, list(), nil, api.OK)
	wantForward(t, h, list(1), list(2), 3, api.OK)
	if e := h.Back(p); e != api.OK {
		t.Fatalf("Back behind nothing = %d", e)
	}
	p = h.Point()
	wantSwap(t, h, list(1), list(2), api.OK)
	if e := h.Back(p); e != api.ErrPoint {
		t.Fatalf("Back behind an exchange = %d", e)
	}
}

// P4.3: words of other kinds, and bytes, that look like the number, stay; the
// objects' own words are changed, and no word twice.
func TestForwardWords(t *testing.T) {
	h := loaded(t, api.HeapState{Words: 60, Oops: 9, Mark: 7, Objects: []api.HeapObject{
		{Oop: 3, Class: 12, Slots: words(12, 4, 16, 20, 3, 7, 13, 2, 10, 14, 36)},
		{Oop: 1, Class: 4, Format: api.FormatBytes, Slots: words(12, 4, 16, 3)},
		{Oop: 4, Class: 3, Slots: words(12, 12)},
		{Oop: 5, Class: 14},
		{Oop: 9, Class: 16, Slots: words(20, 4)},
	}})
	p := h.Point()
	wantForward(t, h, list(3, 1), list(4, 5), 7, api.OK)
	wantState(t, h, api.HeapState{Words: 60, Oops: 9, Mark: 7, Objects: []api.HeapObject{
		{Oop: 3, Class: 16, Slots: words(16, 20, 16, 20, 3, 7, 13, 2, 10, 14, 36)},
		{Oop: 1, Class: 20, Format: api.FormatBytes, Slots: words(12, 4, 16, 3)},
		{Oop: 4, Class: 3, Slots: words(16, 16)},
		{Oop: 5, Class: 14},
		{Oop: 9, Class: 16, Slots: words(20, 20)},
	}})
	wantForward(t, h, list(3, 1), list(4, 5), 0, api.OK)
	wantForward(t, h, nil, list(), 0, api.OK)
	if e := h.Back(p); e != api.OK {
		t.Fatalf("Back = %d", e)
	}
}

// P4.3: the highest oop is named like every other one.
func TestForwardHighest(t *testing.T) {
	h := loaded(t, api.HeapState{Words: 20, Oops: api.MaxOops, Objects: []api.HeapObject{
		{Oop: api.MaxOops, Class: 4 * api.MaxOops, Slots: words(4, 4*api.MaxOops)}, {Oop: 1, Class: 4},
	}})
	wantForward(t, h, list(1), list(api.MaxOops), 2, api.OK)
	wantForward(t, h, list(api.MaxOops), list(1), 4, api.OK)
	wantObjects(t, h, api.HeapObject{Oop: 1, Class: 4}, api.HeapObject{Oop: api.MaxOops, Class: 4, Slots: words(4, 4)})
}

// P4.4: what only was named through one that was forwarded can be collected.
func TestForwardCollected(t *testing.T) {
	h := loaded(t, api.HeapState{Words: 40, Oops: 9, Objects: []api.HeapObject{
		{Oop: 1, Class: 4, Slots: words(8)}, {Oop: 2, Class: 4, Slots: words(12)}, {Oop: 3, Class: 4}, {Oop: 4, Class: 4},
	}})
	wantForward(t, h, list(2), list(4), 1, api.OK)
	if oops, e := collect.Reach(h, words(4)); !slices.Equal(oops, list(1, 4)) || e != api.OK {
		t.Fatalf("Reach = %v, %d", oops, e)
	}
	if away, _, e := collect.Run(h, words(4)); away != 2 || e != api.OK {
		t.Fatalf("Run = %d, %d", away, e)
	}
}

// All objects of a full heap change with one another, and back.
func TestMany(t *testing.T) {
	s := api.HeapState{Words: api.MaxWords, Oops: api.MaxOops}
	var a, b []int
	for oop := 1; oop <= api.MaxOops; oop++ {
		s.Objects = append(s.Objects, api.HeapObject{Oop: oop, Class: api.Word(4 * oop), Slots: words(api.Word(2*oop + 1))})
		if oop <= api.MaxOops/2 {
			a, b = append(a, oop), append(b, api.MaxOops+1-oop)
		}
	}
	h := loaded(t, s)
	wantBoth(t, h, append(a, 1), append(b, 2), api.ErrBecome)
	wantSwap(t, h, a, b, api.OK)
	for i, oop := range a {
		if class, _ := h.Class(oop); class != api.Word(4*b[i]) {
			t.Fatalf("the class of %d is %d", oop, class)
		}
	}
	wantSwap(t, h, b, a, api.OK)
	wantState(t, h, s)
	wantForward(t, h, a, b, len(a), api.OK)
}

// P4.2 to P4.4: heaps at random, held against what the promises say of each
// object.
func TestRandom(t *testing.T) {
	r := rand.New(rand.NewSource(4))
	for range 500 {
		h := randomHeap(t, r)
		was := h.State()
		oops := h.All()
		r.Shuffle(len(oops), func(i, j int) { oops[i], oops[j] = oops[j], oops[i] })
		n := r.Intn(len(oops)/2 + 1)
		a, b := oops[:n], oops[n:2*n]

		words, objects := h.Room()
		wantSwap(t, h, a, b, api.OK)
		if w, o := h.Room(); w != words || o != objects {
			t.Fatalf("the room is %d, %d, and was %d, %d", w, o, words, objects)
		}
		wantState(t, h, swapped(was, a, b))
		wantSwap(t, h, a, b, api.OK)
		wantState(t, h, was)

		want, count := forwarded(was, a, b)
		wantForward(t, h, a, b, count, api.OK)
		wantState(t, h, want)
		wantForward(t, h, a, b, 0, api.OK)
	}
}

// randomHeap is a heap whose objects name one another, and what is not there.
func randomHeap(t *testing.T, r *rand.Rand) *heap.Heap {
	t.Helper()
	s := api.HeapState{Words: 400, Oops: 30, Mark: r.Intn(3)}
	someWord := func() api.Word {
		return []api.Word{api.Word(4 * (1 + r.Intn(22))), api.Word(2*r.Intn(40) + 1), api.Word(4*r.Intn(20) + 2)}[r.Intn(3)]
	}
	for _, k := range r.Perm(20)[:r.Intn(21)] {
		o := api.HeapObject{Oop: k + 1, Class: someWord(), Format: r.Intn(2)}
		for range r.Intn(6) {
			if o.Format == api.FormatBytes {
				o.Slots = append(o.Slots, api.Word(r.Intn(90)))
			} else {
				o.Slots = append(o.Slots, someWord())
			}
		}
		s.Objects = append(s.Objects, o)
	}
	return loaded(t, s)
}

// swapped is the state in which the oops have changed hands, and nothing else.
func swapped(s api.HeapState, a, b []int) api.HeapState {
	s.Objects = slices.Clone(s.Objects)
	for i, o := range s.Objects {
		if k := slices.Index(a, o.Oop); k >= 0 {
			s.Objects[i].Oop = b[k]
		} else if k := slices.Index(b, o.Oop); k >= 0 {
			s.Objects[i].Oop = a[k]
		}
	}
	return s
}

// forwarded is the state in which the words name the others; how many.
func forwarded(s api.HeapState, a, b []int) (api.HeapState, int) {
	s.Objects = slices.Clone(s.Objects)
	count := 0
	turn := func(w *api.Word) {
		for k := range a {
			if *w == api.Word(4*a[k]) {
				*w = api.Word(4 * b[k])
				count++
				return
			}
		}
	}
	for i := range s.Objects {
		o := &s.Objects[i]
		turn(&o.Class)
		if o.Format == api.FormatBytes {
			continue
		}
		o.Slots = slices.Clone(o.Slots)
		for j := range o.Slots {
			turn(&o.Slots[j])
		}
	}
	return s, count
}
