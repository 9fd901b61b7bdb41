package collect_test

import (
	"math"
	"math/rand"
	"reflect"
	"slices"
	"testing"

	"kiln/api"
	"kiln/collect"
	"kiln/heap"
	"kiln/word"
)

// noObjects is roots that name nothing in any heap: no words, and words of
// other kinds, beside each kind's ends and far off.
var noObjects = []api.Word{0, -4, -8, 262148, 1 << 40, math.MaxInt, math.MinInt, math.MaxInt - 3, 1, 5, 7, -1, 1<<31 - 1, 2, 10, 16382, 16386}

func roots(list ...api.Word) []api.Word { return list }

func loaded(t *testing.T, s api.HeapState) *heap.Heap {
	t.Helper()
	h, e := heap.Load(s)
	if h == nil || e != api.OK {
		t.Fatalf("Load = %v, %d", h, e)
	}
	return h
}

func made(t *testing.T, words, oops int) *heap.Heap {
	t.Helper()
	return loaded(t, api.HeapState{Words: words, Oops: oops})
}

// six is the heap of the chapter's examples.
func six(t *testing.T) *heap.Heap {
	t.Helper()
	return loaded(t, api.HeapState{Words: 40, Oops: 9, Objects: []api.HeapObject{
		{Oop: 1, Class: 4, Slots: roots(4, 12)},
		{Oop: 2, Class: 4, Slots: roots(4)},
		{Oop: 3, Class: 8, Slots: roots(16)},
		{Oop: 4, Class: 4, Slots: roots(9, 13)},
		{Oop: 5, Class: 4, Slots: roots(20)},
		{Oop: 6, Class: 4, Format: api.FormatBytes, Slots: roots(12, 20)},
	}})
}

func alloc(t *testing.T, h *heap.Heap, class api.Word, n, format int) int {
	t.Helper()
	oop, e := h.Alloc(class, n, format)
	if e != api.OK {
		t.Fatalf("Alloc(%d, %d, %d) = %d", class, n, format, e)
	}
	return oop
}

func put(t *testing.T, h *heap.Heap, oop, i int, w api.Word) {
	t.Helper()
	if e := h.Put(oop, i, w); e != api.OK {
		t.Fatalf("Put(%d, %d, %d) = %d", oop, i, w, e)
	}
}

func wantReach(t *testing.T, h *heap.Heap, from []api.Word, want ...int) {
	t.Helper()
	if list, e := collect.Reach(h, from); !slices.Equal(list, want) || e != api.OK {
		t.Fatalf("Reach(%v) = %v, %d, want %v", from, list, e, want)
	}
}

func wantRun(t *testing.T, h *heap.Heap, from []api.Word, away, nearer int) {
	t.Helper()
	if a, n, e := collect.Run(h, from); a != away || n != nearer || e != api.OK {
		t.Fatalf("Run(%v) = %d, %d, %d, want %d, %d", from, a, n, e, away, nearer)
	}
}

func wantAll(t *testing.T, h *heap.Heap, want ...int) {
	t.Helper()
	if list := h.All(); !slices.Equal(list, want) {
		t.Fatalf("All = %v, want %v", list, want)
	}
}

// same tells whether two states say the same, a nil list being an empty one.
func same(a, b api.HeapState) bool {
	for _, s := range []*api.HeapState{&a, &b} {
		s.Objects = append([]api.HeapObject{}, s.Objects...)
		for i, o := range s.Objects {
			s.Objects[i].Slots = append([]api.Word{}, o.Slots...)
		}
	}
	return reflect.DeepEqual(a, b)
}

func TestExamples(t *testing.T) {
	h := six(t)
	wantReach(t, h, roots(4), 1, 2, 3, 4)
	wantReach(t, h, roots(8), 1, 2, 3, 4)
	wantReach(t, h, roots(24), 1, 2, 3, 4, 6)
	wantReach(t, h, roots(20), 1, 2, 3, 4, 5)
	wantReach(t, h, nil)
	wantReach(t, h, roots(7, 10, 36, -4, 0))
	wantRun(t, h, roots(8), 2, 6)
	wantAll(t, h, 1, 2, 3, 4)
	wantRun(t, h, roots(8), 0, 0)
	wantRun(t, h, nil, 4, 14)
	wantAll(t, h)
}

// P3.1: a heap that is nil.
func TestNil(t *testing.T) {
	for _, from := range [][]api.Word{nil, {}, roots(4), noObjects} {
		if list, e := collect.Reach(nil, from); list != nil || e != api.ErrNil {
			t.Errorf("Reach(nil, %v) = %v, %d", from, list, e)
		}
		if a, n, e := collect.Run(nil, from); a != 0 || n != 0 || e != api.ErrNil {
			t.Errorf("Run(nil, %v) = %d, %d, %d", from, a, n, e)
		}
	}
}

// P3.1: a heap that no call made is not said, but no call panics.
func TestHeapThatNoCallMade(t *testing.T) {
	var h heap.Heap
	collect.Reach(&h, roots(4, 8))
	collect.Run(&h, roots(4, 8))
}

// P3.1: nil and empty lists are the same.
func TestNilAndEmptyRoots(t *testing.T) {
	for _, from := range [][]api.Word{nil, {}} {
		h := six(t)
		wantReach(t, h, from)
		wantRun(t, h, from, 6, 20)
		wantAll(t, h)
	}
}

// P3.1: the roots and what lies behind them stay, and are not kept.
func TestRootsAreLeftAsTheyAre(t *testing.T) {
	h := six(t)
	memory := roots(24, 7, 20, 8, 24, -5, -6)
	from, want := memory[1:5], slices.Clone(memory)
	wantReach(t, h, from, 1, 2, 3, 4, 5, 6)
	wantRun(t, h, from, 0, 0)
	if !slices.Equal(memory, want) {
		t.Errorf("the roots became %v, were %v", memory, want)
	}
	clear(memory)
	wantReach(t, h, roots(20), 1, 2, 3, 4, 5)
	wantRun(t, h, roots(8), 2, 6)
}

// P3.1: each answer is new memory, its spare room too.
func TestAnswersAreNewMemory(t *testing.T) {
	h := six(t)
	for range 3 {
		list, _ := collect.Reach(h, roots(4))
		if !slices.Equal(list, []int{1, 2, 3, 4}) {
			t.Fatalf("Reach = %v", list)
		}
		list = list[:cap(list)]
		for i := range list {
			list[i] = 6
		}
	}
	wantAll(t, h, 1, 2, 3, 4, 5, 6)
	a, _ := collect.Reach(h, roots(24))
	b, _ := collect.Reach(h, roots(24))
	clear(a[:cap(a)])
	if !slices.Equal(b, []int{1, 2, 3, 4, 6}) {
		t.Errorf("two answers share memory: %v", b)
	}
}

// P3.1, P3.2: roots that name nothing, alone and among others.
func TestRootsThatNameNothing(t *testing.T) {
	h := six(t)
	for _, w := range noObjects {
		wantReach(t, h, roots(w))
	}
	for oop := api.Word(7); oop <= api.MaxOops; oop++ {
		wantReach(t, h, roots(4*oop))
	}
	wantReach(t, h, append(slices.Clone(noObjects), 28, 16), 1, 2, 3, 4)
	wantRun(t, h, noObjects, 6, 20)
}

// P3.2: a root that names a freed object names nothing, nor does a slot, nor a
// class; and an oop that is given anew is named again.
func TestWordsOfOopsThatNoObjectHas(t *testing.T) {
	h := made(t, 100, 20)
	holder, gone := alloc(t, h, 5, 2, api.FormatWords), alloc(t, h, 5, 0, api.FormatWords)
	put(t, h, holder, 0, 8)
	put(t, h, holder, 1, 4*20)
	kind := alloc(t, h, 8, 0, api.FormatWords)
	if e := h.Free(gone); e != api.OK {
		t.Fatal(e)
	}
	wantReach(t, h, roots(4, 8, 12), 1, 3)
	wantReach(t, h, roots(8))
	if oop := alloc(t, h, 5, 0, api.FormatBytes); oop != gone {
		t.Fatalf("Alloc = %d", oop)
	}
	wantReach(t, h, roots(4), 1, 2)
	wantReach(t, h, roots(api.Word(4*kind)), 2, 3)
}

// P3.2: bytes name nothing, whatever their numbers; but their class does.
func TestBytesNameNothing(t *testing.T) {
	h := made(t, 400, 70)
	for range 64 {
		alloc(t, h, 5, 0, api.FormatWords)
	}
	b := alloc(t, h, 4*7, 256, api.FormatBytes)
	for i := range 256 {
		put(t, h, b, i, api.Word(i))
	}
	wantReach(t, h, roots(api.Word(4*b)), 7, b)
}

// P3.2: the class leads on, of objects without slots too; one that is no
// object's word leads nowhere.
func TestClassesLeadOn(t *testing.T) {
	h := made(t, 100, 20)
	for _, class := range roots(8, 12, 16, 16382, 4, 1<<31-1) {
		alloc(t, h, class, 0, api.FormatWords)
	}
	wantReach(t, h, roots(4), 1, 2, 3, 4)
	wantReach(t, h, roots(20), 1, 2, 3, 4, 5)
	wantReach(t, h, roots(24), 6)
}

// P3.1: rings of one, two and many objects, by classes and by slots.
func TestRings(t *testing.T) {
	h := made(t, 1000, 100)
	alloc(t, h, 4, 0, api.FormatWords)
	a, b := alloc(t, h, 12, 0, api.FormatBytes), alloc(t, h, 8, 1, api.FormatWords)
	wantReach(t, h, roots(4), 1)
	put(t, h, b, 0, 8)
	wantReach(t, h, roots(8), a, b)
	const first, many = 4, 50
	for i := range many {
		put(t, h, alloc(t, h, 5, 1, api.FormatWords), 0, api.Word(4*(first+(i+1)%many)))
	}
	list, e := collect.Reach(h, roots(4*(first+17)))
	if len(list) != many || list[0] != first || e != api.OK {
		t.Errorf("a ring of %d: %v, %d", many, list, e)
	}
	wantRun(t, h, roots(4*(first+17)), 3, 7)
}

// P3.1, P3.2: a chain of as many objects as a heap can have, either way round,
// by slots and by classes.
func TestLongChains(t *testing.T) {
	chain := func(n, step int, byClass bool) api.HeapState {
		s := api.HeapState{Words: api.MaxWords, Oops: n}
		for oop := 1; oop <= n; oop++ {
			next := api.Word(5)
			if k := oop + step; k >= 1 && k <= n {
				next = api.Word(4 * k)
			}
			o := api.HeapObject{Oop: oop, Class: 5, Slots: roots(5, next, 7)}
			if byClass {
				o = api.HeapObject{Oop: oop, Class: next}
			}
			s.Objects = append(s.Objects, o)
		}
		return s
	}
	const n = api.MaxOops
	for _, byClass := range []bool{false, true} {
		for _, c := range []struct{ step, first int }{{1, 1}, {-1, n}} {
			h := loaded(t, chain(n, c.step, byClass))
			list, e := collect.Reach(h, roots(api.Word(4*c.first)))
			if !slices.Equal(list, h.All()) || len(list) != n || e != api.OK {
				t.Errorf("a chain of %d objects, step %d: %d, %d", n, c.step, len(list), e)
			}
			wantRun(t, h, roots(api.Word(4*c.first)), 0, 0)
		}
	}
}

// P3.2: an object of MaxSlots slots that all name others, the last one too;
// and each is told once, however often it is named.
func TestWideObjects(t *testing.T) {
	const n = api.MaxSlots
	h := made(t, api.MaxWords, api.MaxOops)
	wide := alloc(t, h, 5, n, api.FormatWords)
	for i := range n {
		put(t, h, wide, i, api.Word(4*alloc(t, h, 4, 0, api.FormatBytes)))
	}
	idle := alloc(t, h, 4, n, api.FormatWords)
	if list, e := collect.Reach(h, roots(4, 4, 8)); len(list) != n+1 || list[n] != n+1 || e != api.OK {
		t.Errorf("Reach = %d oops, %d", len(list), e)
	}
	for i := range n {
		put(t, h, wide, i, 4*5)
	}
	wantReach(t, h, roots(4, 4, 20), 1, 5)
	wantReach(t, h, roots(api.Word(4*idle)), 1, 5, idle)
}

// P3.2: Reach changes nothing, not the words that lie idle, the mark, or a point.
func TestReachChangesNothing(t *testing.T) {
	h := six(t)
	h.Free(2)
	h.Mark(3)
	p, want := h.Point(), h.State()
	words, oops := h.Room()
	alloc(t, h, 4, 0, api.FormatWords)
	collect.Reach(h, roots(4))
	collect.Reach(h, nil)
	if e := h.Back(p); e != api.OK {
		t.Fatalf("Back = %d", e)
	}
	if w, k := h.Room(); !same(want, withMark(h.State(), 3)) || w != words || k != oops || h.Marked() != 2 {
		t.Errorf("the heap became %v, was %v", h.State(), want)
	}
}

func withMark(s api.HeapState, mark int) api.HeapState {
	s.Mark = mark
	return s
}

// P3.3, P3.4: what lay idle ahead of Run counts into the second number, and
// lies idle no more; a point is void; the mark stays.
func TestRunSlidesTogether(t *testing.T) {
	h := six(t)
	h.Free(3)
	h.Mark(9)
	p := h.Point()
	wantRun(t, h, roots(24), 3, 3+3+4+3)
	if words, oops := h.Room(); words != 40-4-3 || oops != 9-2 || h.Marked() != 9 {
		t.Errorf("Room = %d, %d, mark %d", words, oops, h.Marked())
	}
	wantAll(t, h, 1, 6)
	if e := h.Back(p); e != api.ErrPoint {
		t.Errorf("Back = %d", e)
	}
	if oop := alloc(t, h, 4, 31, api.FormatWords); oop != 2 {
		t.Errorf("Alloc = %d", oop)
	}
}

// P3.3: where nothing is taken away, but words lie idle, they are closed up.
func TestRunOfIdleWordsAlone(t *testing.T) {
	h := made(t, 20, 4)
	for range 3 {
		alloc(t, h, 5, 1, api.FormatWords)
	}
	h.Free(1)
	wantRun(t, h, roots(8, 12), 0, 3)
	wantRun(t, h, roots(8, 12), 0, 0)
}

// plainReach is what the roots lead to, told over from the chapter's words:
// all objects are gone through until no more is found.
func plainReach(s api.HeapState, from []api.Word) []int {
	found := map[int]bool{}
	name := func(w api.Word) bool {
		oop, e := word.Oop(w)
		there := slices.ContainsFunc(s.Objects, func(o api.HeapObject) bool { return o.Oop == oop })
		if e != api.OK || !there || found[oop] {
			return false
		}
		found[oop] = true
		return true
	}
	for _, w := range from {
		name(w)
	}
	for more := true; more; {
		more = false
		for _, o := range s.Objects {
			if !found[o.Oop] {
				continue
			}
			more = name(o.Class) || more
			for _, w := range o.Slots {
				more = o.Format == api.FormatWords && name(w) || more
			}
		}
	}
	var list []int
	for oop := range found {
		list = append(list, oop)
	}
	slices.Sort(list)
	return list
}

// anyWord is mostly an object's word; now and then of an oop that none has.
func anyWord(r *rand.Rand, oops int) api.Word {
	if r.Intn(3) == 0 {
		return api.Word(2*r.Intn(100) + 1)
	}
	return api.Word(4 * (1 + r.Intn(oops)))
}

// grown is a heap with objects at random, some of which were freed and some
// exchanged.
func grown(t *testing.T, r *rand.Rand) *heap.Heap {
	t.Helper()
	const words, oops = 200, 30
	h := made(t, words, oops)
	for range 1 + r.Intn(60) {
		all := h.All()
		if len(all) > 0 && r.Intn(5) == 0 {
			h.Free(all[r.Intn(len(all))])
			continue
		}
		if len(all) > 0 && r.Intn(6) == 0 {
			h.Exchange(all[r.Intn(len(all))], all[r.Intn(len(all))])
			continue
		}
		oop, e := h.Alloc(anyWord(r, oops), r.Intn(5), r.Intn(2))
		if e != api.OK {
			break
		}
		n, format, _ := h.Size(oop)
		for i := range n {
			w := anyWord(r, oops)
			if format == api.FormatBytes {
				w &= 255
			}
			put(t, h, oop, i, w)
		}
	}
	return h
}

// kept is a state without the objects that the roots do not lead to.
func kept(s api.HeapState, oops []int) api.HeapState {
	s.Objects = slices.DeleteFunc(slices.Clone(s.Objects), func(o api.HeapObject) bool { return !slices.Contains(oops, o.Oop) })
	return s
}

func lengths(s api.HeapState) int {
	sum := 0
	for _, o := range s.Objects {
		n := len(o.Slots)
		if o.Format == api.FormatBytes {
			n = (n + 3) / 4
		}
		sum += 2 + n
	}
	return sum
}

// P3.2 to P3.4 against the plain telling over, in heaps at random.
func TestAgainstThePlainTelling(t *testing.T) {
	r := rand.New(rand.NewSource(3))
	for round := range 3000 {
		h := grown(t, r)
		var from []api.Word
		for range r.Intn(4) {
			from = append(from, anyWord(r, 30))
		}
		was := h.State()
		room, _ := h.Room()
		want := plainReach(was, from)
		wantReach(t, h, from, want...)
		if !same(h.State(), was) {
			t.Fatalf("round %d: Reach changed the heap", round)
		}
		stays := kept(was, want)
		wantRun(t, h, from, len(was.Objects)-len(want), was.Words-room-lengths(stays))
		if !same(h.State(), stays) {
			t.Fatalf("round %d: behind Run %v, want %v", round, h.State(), stays)
		}
		wantAll(t, h, want...)
		if words, oops := h.Room(); words != was.Words-lengths(stays) || oops != was.Oops-len(want) {
			t.Fatalf("round %d: Room = %d, %d", round, words, oops)
		}
		wantRun(t, h, from, 0, 0)
		if oop, e := h.Alloc(4, 0, api.FormatWords); e == api.OK && slices.Contains(want, oop) {
			t.Fatalf("round %d: %d was given again", round, oop)
		}
	}
}
