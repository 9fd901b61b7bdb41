package space_test

import (
	"math"
	"reflect"
	"slices"
	"testing"

	"kiln/api"
	"kiln/heap"
	"kiln/space"
)

// noWords is what is no word, beside each kind's ends and far off.
var noWords = []api.Word{0, -4, -2, 262148, 16386, 1<<31 + 1, -1<<31 - 1, 1 << 40, math.MaxInt, math.MinInt}

// noOops is numbers that no object of a space with two objects has.
var noOops = []int{0, -1, -4, 3, 9, 65536, 65537, 1 << 31, 1<<32 + 1, math.MaxInt, math.MinInt}

func words(list ...api.Word) []api.Word { return list }

func made(t *testing.T, words, oops int) *space.Space {
	t.Helper()
	s, e := space.New(words, oops)
	if s == nil || e != api.OK {
		t.Fatalf("New(%d, %d) = %v, %d", words, oops, s, e)
	}
	return s
}

func loaded(t *testing.T, state api.HeapState, root int) *space.Space {
	t.Helper()
	s, e := space.Load(state, root)
	if s == nil || e != api.OK {
		t.Fatalf("Load(%v, %d) = %v, %d", state, root, s, e)
	}
	return s
}

// two is a state with room for 30 words and 6 objects: 1, which names 2.
func two() api.HeapState {
	return api.HeapState{Words: 30, Oops: 6, Objects: []api.HeapObject{
		{Oop: 1, Class: 4, Slots: words(8, 4, 9)},
		{Oop: 2, Class: 4, Format: api.FormatBytes, Slots: words(0, 255, 3, 4, 5)},
	}}
}

func wantErr(t *testing.T, what string, got, want api.Errno) {
	t.Helper()
	if got != want {
		t.Fatalf("%s = %d, want %d", what, got, want)
	}
}

func wantAlloc(t *testing.T, s *space.Space, n, format int, want api.Word, wantE api.Errno) {
	t.Helper()
	if w, e := s.Alloc(4, n, format); w != want || e != wantE {
		t.Fatalf("Alloc(4, %d, %d) = %d, %d, want %d, %d", n, format, w, e, want, wantE)
	}
}

func wantRoot(t *testing.T, s *space.Space, i int, want api.Word, wantE api.Errno) {
	t.Helper()
	if w, e := s.Root(i); w != want || e != wantE {
		t.Fatalf("Root(%d) = %d, %d, want %d, %d", i, w, e, want, wantE)
	}
}

func wantCrowned(t *testing.T, s *space.Space, want int) {
	t.Helper()
	if oop := s.Crowned(); oop != want {
		t.Fatalf("Crowned = %d, want %d", oop, want)
	}
}

func wantCollect(t *testing.T, s *space.Space, away, nearer int, want api.Errno) {
	t.Helper()
	if a, n, e := s.Collect(); a != away || n != nearer || e != want {
		t.Fatalf("Collect = %d, %d, %d, want %d, %d, %d", a, n, e, away, nearer, want)
	}
}

func wantRoom(t *testing.T, s *space.Space, words, oops int) {
	t.Helper()
	if a, b := s.Room(); a != words || b != oops {
		t.Fatalf("Room = %d, %d, want %d, %d", a, b, words, oops)
	}
}

func wantKept(t *testing.T, s *space.Space, want ...api.Word) {
	t.Helper()
	if list := s.Kept(); !slices.Equal(list, want) {
		t.Fatalf("Kept = %v, want %v", list, want)
	}
}

func wantAll(t *testing.T, s *space.Space, want ...int) {
	t.Helper()
	if list := s.Heap().All(); !slices.Equal(list, want) {
		t.Fatalf("All = %v, want %v", list, want)
	}
}

func wantMarked(t *testing.T, s *space.Space, want int) {
	t.Helper()
	if k := s.Heap().Marked(); k != want {
		t.Fatalf("Marked = %d, want %d", k, want)
	}
}

// same tells whether two states say the same, a nil list being an empty one.
func same(a, b api.HeapState) bool {
	for _, s := range []*api.HeapState{&a, &b} {
		s.Objects = append([]api.HeapObject{}, s.Objects...)
		for i, o := range s.Objects {
			s.Objects[i].Slots = append([]api.Word{}, o.Slots...)
		}
	}
	return reflect.DeepEqual(a, b)
}

func wantState(t *testing.T, s *space.Space, want api.HeapState) {
	t.Helper()
	if got := s.Heap().State(); !same(got, want) {
		t.Fatalf("State = %v, want %v", got, want)
	}
}

// wantNew holds a space against what P5.2 says of a new one over this state.
func wantNew(t *testing.T, s *space.Space, state api.HeapState, root int) {
	t.Helper()
	wantState(t, s, state)
	wantCrowned(t, s, root)
	wantKept(t, s)
	wantErr(t, "Abort", s.Abort(), api.ErrPoint)
	wantErr(t, "Commit", s.Commit(), api.ErrPoint)
}

func TestExamples(t *testing.T) {
	s := made(t, 20, 3)
	wantCrowned(t, s, 0)
	wantRoot(t, s, 0, 0, api.ErrOop)
	wantKept(t, s)
	wantAlloc(t, s, 3, 0, 4, api.OK)
	wantErr(t, "Crown", s.Crown(1), api.OK)
	wantCrowned(t, s, 1)
	wantRoot(t, s, 2, 4, api.OK)
	wantAlloc(t, s, 5, 0, 8, api.OK)
	wantAlloc(t, s, 2, 0, 12, api.OK)
	wantRoom(t, s, 15, 2)
	wantAlloc(t, s, 13, 0, 8, api.OK)
	wantErr(t, "Keep", s.Keep(8), api.OK)
	wantAlloc(t, s, 0, 0, 0, api.ErrFull)
	wantErr(t, "Drop(2)", s.Drop(2), api.ErrKept)
	wantErr(t, "Drop(1)", s.Drop(1), api.OK)
	wantAlloc(t, s, 4, 0, 8, api.OK)
	wantErr(t, "SetRoot", s.SetRoot(0, 8), api.OK)
	wantCollect(t, s, 0, 0, api.OK)
	wantRoom(t, s, 9, 1)
	wantErr(t, "Begin", s.Begin(), api.OK)
	wantErr(t, "Begin", s.Begin(), api.ErrPoint)
	wantCollect(t, s, 0, 0, api.ErrPoint)
	wantAlloc(t, s, 1, 0, 12, api.OK)
	wantAlloc(t, s, 0, 0, 0, api.ErrFull)
	wantRoom(t, s, 9, 1)
	wantErr(t, "Abort", s.Abort(), api.OK)
	wantErr(t, "Abort", s.Abort(), api.ErrPoint)
	wantAll(t, s, 1, 2)
	bracketed(t, s, 5, 12, api.OK, 5)
	bracketed(t, s, 1, 0, api.ErrMarked, 0)
	wantErr(t, "Begin", s.Begin(), api.OK)
	wantAlloc(t, s, 0, 0, 12, api.OK)
	wantErr(t, "Commit", s.Commit(), api.OK)
	wantAll(t, s, 1, 2, 3)
	wantErr(t, "Keep(0)", s.Keep(0), api.ErrWord)
	wantErr(t, "Keep()", s.Keep(), api.OK)
	wantNone(t, "New(-1, 0)", func() (*space.Space, api.Errno) { return space.New(-1, 0) }, api.ErrArg)
	alone := api.HeapState{Words: 9, Oops: 4, Objects: []api.HeapObject{{Oop: 2, Class: 4}}}
	wantNone(t, "Load", func() (*space.Space, api.Errno) { return space.Load(alone, 1) }, api.ErrOop)
}

// bracketed marks, allocates in a bracket, and gives it back.
func bracketed(t *testing.T, s *space.Space, mark int, w api.Word, e api.Errno, left int) {
	t.Helper()
	wantErr(t, "Mark", s.Heap().Mark(mark), api.OK)
	wantErr(t, "Begin", s.Begin(), api.OK)
	wantAlloc(t, s, 0, 0, w, e)
	wantErr(t, "Abort", s.Abort(), api.OK)
	wantMarked(t, s, left)
}

func wantNone(t *testing.T, what string, call func() (*space.Space, api.Errno), want api.Errno) {
	t.Helper()
	if s, e := call(); s != nil || e != want {
		t.Fatalf("%s = %v, %d, want %d", what, s, e, want)
	}
}

// wantNotThere holds each call against what P5.1 says of a space that is not
// there, with arguments that would be refused, and with such as would not.
func wantNotThere(t *testing.T, s *space.Space) {
	t.Helper()
	for _, oop := range append(noOops, 1, 2) {
		wantErr(t, "Crown", s.Crown(oop), api.ErrNil)
		wantRoot(t, s, oop, 0, api.ErrNil)
		wantErr(t, "Drop", s.Drop(oop), api.ErrNil)
		wantAlloc(t, s, oop, oop, 0, api.ErrNil)
	}
	for _, w := range append(noWords, 4, 9) {
		wantErr(t, "SetRoot", s.SetRoot(0, w), api.ErrNil)
		wantErr(t, "Keep", s.Keep(w), api.ErrNil)
	}
	wantErr(t, "Keep", s.Keep(), api.ErrNil)
	wantErr(t, "Keep", s.Keep(make([]api.Word, api.MaxKept+1)...), api.ErrNil)
	wantErr(t, "Drop", s.Drop(0), api.ErrNil)
	wantAlloc(t, s, 0, 0, 0, api.ErrNil)
	wantCollect(t, s, 0, 0, api.ErrNil)
	wantErr(t, "Begin", s.Begin(), api.ErrNil)
	wantErr(t, "Abort", s.Abort(), api.ErrNil)
	wantErr(t, "Commit", s.Commit(), api.ErrNil)
	wantCrowned(t, s, 0)
	wantRoom(t, s, 0, 0)
	if s.Heap() != nil || s.Kept() != nil {
		t.Fatalf("Heap = %v, Kept = %v", s.Heap(), s.Kept())
	}
}

// P5.1: a space that is nil, or that no call made.
func TestNotThere(t *testing.T) {
	wantNotThere(t, nil)
	wantNotThere(t, new(space.Space))
	wantNotThere(t, &space.Space{})
}

// P5.1: a copy is one that no call made, and does nothing to what it is of.
func TestCopyIsNotThere(t *testing.T) {
	s := loaded(t, two(), 1)
	wantErr(t, "Keep", s.Keep(8), api.OK)
	wantErr(t, "Begin", s.Begin(), api.OK)
	other := *s
	wantNotThere(t, &other)
	wantKept(t, s, 8)
	wantCrowned(t, s, 1)
	wantErr(t, "Abort", s.Abort(), api.OK)
}

// P5.1: a heap that its caller emptied leaves no call panicking.
func TestHeapThatWasOverwritten(t *testing.T) {
	s := loaded(t, two(), 1)
	wantErr(t, "Begin", s.Begin(), api.OK)
	*s.Heap() = heap.Heap{}
	s.Crown(1)
	s.Crowned()
	s.Root(0)
	s.SetRoot(0, 4)
	s.Alloc(4, 1, 0)
	s.Room()
	s.Abort()
	s.Collect()
	s.Begin()
	s.Commit()
}

// P5.1: the words handed in, and what lies behind them, stay, and are not kept.
func TestWordsHandedInAreLeft(t *testing.T) {
	s := made(t, 9, 2)
	memory := words(-6, 3, 5, 7, -7, -8)
	want := slices.Clone(memory)
	wantErr(t, "Keep", s.Keep(memory[1:3]...), api.OK)
	wantErr(t, "Keep", s.Keep(9, 11, 13), api.OK)
	if !slices.Equal(memory, want) {
		t.Fatalf("the words became %v, were %v", memory, want)
	}
	memory[1], memory[2] = 17, 19
	wantKept(t, s, 3, 5, 9, 11, 13)
}

// P5.1: the state handed in stays, and is not kept.
func TestStateHandedInIsLeft(t *testing.T) {
	state, want := two(), two()
	s := loaded(t, state, 1)
	wantErr(t, "SetRoot", s.SetRoot(0, 11), api.OK)
	if !same(state, want) {
		t.Fatalf("the state became %v", state)
	}
	state.Objects[0].Slots[1] = 33
	wantRoot(t, s, 1, 4, api.OK)
}

// P5.1: what Kept answers is new memory, its spare room too.
func TestKeptIsNewMemory(t *testing.T) {
	s := made(t, 9, 2)
	wantErr(t, "Keep", s.Keep(3, 5, 7), api.OK)
	wantErr(t, "Drop", s.Drop(1), api.OK)
	a, b := s.Kept(), s.Kept()
	for _, list := range [][]api.Word{a[:cap(a)], b[:cap(b)]} {
		for i := range list {
			list[i] = 99
		}
	}
	wantKept(t, s, 3, 5)
	wantErr(t, "Keep", s.Keep(9), api.OK)
	if a[0] = 1; b[0] != 99 {
		t.Fatal("two answers share memory")
	}
	wantKept(t, s, 3, 5, 9)
	a = append(a, 21)
	wantKept(t, s, 3, 5, 9)
	wantErr(t, "Drop", s.Drop(3), api.OK)
	_ = append(s.Kept(), 23)
	wantErr(t, "Keep", s.Keep(3), api.OK)
	wantKept(t, s, 3)
}

// P5.1: nil and empty lists are the same.
func TestNilAndEmptyLists(t *testing.T) {
	s := made(t, 9, 2)
	wantErr(t, "Keep", s.Keep(nil...), api.OK)
	wantErr(t, "Keep", s.Keep([]api.Word{}...), api.OK)
	wantKept(t, s)
	for _, list := range [][]api.HeapObject{nil, {}} {
		state := api.HeapState{Words: 7, Oops: 3, Objects: list}
		wantNew(t, loaded(t, state, 0), state, 0)
	}
}

// P5.1: two spaces have nothing in common.
func TestTwoSpaces(t *testing.T) {
	a, b := loaded(t, two(), 1), loaded(t, two(), 2)
	wantErr(t, "Keep", a.Keep(8), api.OK)
	wantErr(t, "SetRoot", a.SetRoot(0, 77), api.OK)
	wantErr(t, "Begin", a.Begin(), api.OK)
	wantErr(t, "Mark", a.Heap().Mark(7), api.OK)
	wantAlloc(t, a, 1, 0, 12, api.OK)
	wantState(t, b, two())
	wantNew(t, b, two(), 2)
	wantCollect(t, b, 0, 0, api.OK)
}

// P5.1: the heap that Heap answers is the space's own.
func TestHeapIsTheSpacesOwn(t *testing.T) {
	s := loaded(t, two(), 1)
	wantErr(t, "Put", s.Heap().Put(1, 1, 55), api.OK)
	wantRoot(t, s, 1, 55, api.OK)
	wantErr(t, "SetRoot", s.SetRoot(1, 57), api.OK)
	if w, e := s.Heap().At(1, 1); w != 57 || e != api.OK {
		t.Fatalf("At = %d, %d", w, e)
	}
	if s.Heap() != s.Heap() {
		t.Fatal("it is one heap")
	}
}

// P5.2.
func TestNew(t *testing.T) {
	for _, c := range []struct {
		words, oops int
		want        api.Errno
	}{
		{0, 0, api.OK}, {1, 1, api.OK}, {1048576, 65536, api.OK},
		{-1, 0, api.ErrArg}, {0, -1, api.ErrArg}, {1048577, 1, api.ErrArg}, {1, 65537, api.ErrArg},
		{math.MinInt, math.MinInt, api.ErrArg}, {math.MaxInt, 1, api.ErrArg}, {1, math.MaxInt, api.ErrArg},
	} {
		s, e := space.New(c.words, c.oops)
		if e != c.want || (s == nil) != (c.want != api.OK) {
			t.Fatalf("New(%d, %d) = %v, %d, want %d", c.words, c.oops, s, e, c.want)
		}
		if s != nil {
			wantRoom(t, s, c.words, c.oops)
			wantNew(t, s, api.HeapState{Words: c.words, Oops: c.oops}, 0)
		}
	}
}

// P5.2.
func TestLoad(t *testing.T) {
	marked := two()
	marked.Mark = 5
	far := api.HeapState{Words: 2, Oops: 65536, Objects: []api.HeapObject{{Oop: 65536, Class: 262144}}}
	for _, c := range []struct {
		state       api.HeapState
		root        int
		words, oops int
	}{
		{two(), 1, 21, 4}, {two(), 2, 21, 4}, {two(), 0, 30, 6}, {marked, 1, 21, 4}, {far, 65536, 0, 65535},
	} {
		s := loaded(t, c.state, c.root)
		wantRoom(t, s, c.words, c.oops)
		wantNew(t, s, c.state, c.root)
	}
}

// P5.2: the heap's errors are ahead of the root's.
func TestLoadRefuses(t *testing.T) {
	for i, turn := range []func(s *api.HeapState) api.Errno{
		func(s *api.HeapState) api.Errno { return api.ErrOop },
		func(s *api.HeapState) api.Errno { s.Words = -1; return api.ErrArg },
		func(s *api.HeapState) api.Errno { s.Oops = 65537; return api.ErrArg },
		func(s *api.HeapState) api.Errno { s.Mark = -1; return api.ErrArg },
		func(s *api.HeapState) api.Errno { s.Words = 8; return api.ErrHeap },
		func(s *api.HeapState) api.Errno { s.Objects[0].Class = 0; return api.ErrHeap },
	} {
		state := two()
		want := turn(&state)
		for _, root := range noOops {
			if s, e := space.Load(state, root); root != 0 && (s != nil || e != want) {
				t.Errorf("row %d: Load with the root %d = %v, %d, want %d", i, root, s, e, want)
			}
		}
		if _, e := space.Load(state, 1); want != api.ErrOop && e != want {
			t.Errorf("row %d: Load = %d, want %d", i, e, want)
		}
	}
}

// P5.3.
func TestCrown(t *testing.T) {
	s := loaded(t, two(), 0)
	wantCrowned(t, s, 0)
	wantErr(t, "SetRoot", s.SetRoot(0, 4), api.ErrOop)
	wantErr(t, "SetRoot of no word", s.SetRoot(-1, 0), api.ErrOop)
	wantErr(t, "Crown", s.Crown(1), api.OK)
	for _, oop := range noOops {
		wantErr(t, "Crown of nothing", s.Crown(oop), api.ErrOop)
	}
	wantCrowned(t, s, 1)
	wantErr(t, "Crown", s.Crown(2), api.OK)
	wantCrowned(t, s, 2)
	wantState(t, s, two())
}

// P5.3: what the heap says of the root and a slot.
func TestRootSlots(t *testing.T) {
	s := loaded(t, two(), 1)
	wantRoot(t, s, 0, 8, api.OK)
	wantRoot(t, s, 2, 9, api.OK)
	for _, i := range []int{-1, 3, math.MaxInt, math.MinInt} {
		wantRoot(t, s, i, 0, api.ErrSlot)
		wantErr(t, "SetRoot", s.SetRoot(i, 0), api.ErrSlot)
	}
	for _, w := range noWords {
		wantErr(t, "SetRoot", s.SetRoot(2, w), api.ErrWord)
	}
	wantRoot(t, s, 2, 9, api.OK)
	wantErr(t, "SetRoot", s.SetRoot(2, 262144), api.OK)
	wantRoot(t, s, 2, 262144, api.OK)
	wantErr(t, "Crown", s.Crown(2), api.OK)
	wantRoot(t, s, 1, 255, api.OK)
	wantErr(t, "SetRoot", s.SetRoot(1, 256), api.ErrWord)
	wantErr(t, "SetRoot", s.SetRoot(1, 0), api.OK)
	wantRoot(t, s, 1, 0, api.OK)
}

// P5.3: the root is an oop, whoever has it.
func TestRootThatGoesAndComes(t *testing.T) {
	s := loaded(t, two(), 1)
	wantErr(t, "Free", s.Heap().Free(1), api.OK)
	wantCrowned(t, s, 0)
	wantRoot(t, s, 0, 0, api.ErrOop)
	wantErr(t, "SetRoot", s.SetRoot(0, 4), api.ErrOop)
	wantRoom(t, s, 30, 6)
	wantErr(t, "Crown", s.Crown(1), api.ErrOop)
	wantAlloc(t, s, 1, 0, 4, api.OK)
	wantCrowned(t, s, 1)
	wantRoot(t, s, 0, 4, api.OK)
	wantCollect(t, s, 1, 9, api.OK)
	wantAll(t, s, 1)
	wantErr(t, "Begin", s.Begin(), api.OK)
	wantAlloc(t, s, 0, 0, 8, api.OK)
	wantErr(t, "Crown", s.Crown(2), api.OK)
	wantErr(t, "Abort", s.Abort(), api.OK)
	wantCrowned(t, s, 0)
}

// P5.4.
func TestKeep(t *testing.T) {
	s := made(t, 9, 2)
	for _, w := range noWords {
		wantErr(t, "Keep of no word", s.Keep(w), api.ErrWord)
		wantErr(t, "Keep of no word", s.Keep(3, 4, w), api.ErrWord)
		wantErr(t, "Keep of no word", s.Keep(w, 5), api.ErrWord)
	}
	wantKept(t, s)
	wantErr(t, "Keep", s.Keep(4, 1, 2), api.OK)
	wantErr(t, "Keep", s.Keep(262144, -1), api.OK)
	wantKept(t, s, 4, 1, 2, 262144, -1)
	wantErr(t, "Drop", s.Drop(0), api.OK)
	for _, n := range []int{-1, 6, math.MaxInt, math.MinInt} {
		wantErr(t, "Drop", s.Drop(n), api.ErrKept)
	}
	wantKept(t, s, 4, 1, 2, 262144, -1)
	wantErr(t, "Drop", s.Drop(2), api.OK)
	wantKept(t, s, 4, 1, 2)
	wantErr(t, "Drop", s.Drop(3), api.OK)
	wantKept(t, s)
	wantErr(t, "Drop", s.Drop(1), api.ErrKept)
	wantErr(t, "Drop", s.Drop(0), api.OK)
}

// P5.4: the stack holds MaxKept words, and no more.
func TestStackIsFull(t *testing.T) {
	s := made(t, 9, 2)
	list := slices.Repeat(words(3), 65537)
	wantErr(t, "Keep of too many", s.Keep(list...), api.ErrSize)
	list[65536] = 0
	wantErr(t, "Keep of too many, one no word", s.Keep(list...), api.ErrWord)
	wantKept(t, s)
	wantErr(t, "Keep", s.Keep(list[:65535]...), api.OK)
	wantErr(t, "Keep of two more", s.Keep(5, 5), api.ErrSize)
	wantErr(t, "Keep of one more", s.Keep(5), api.OK)
	wantErr(t, "Keep of one more", s.Keep(7), api.ErrSize)
	wantErr(t, "Keep of no word", s.Keep(0), api.ErrWord)
	wantErr(t, "Keep of none", s.Keep(), api.OK)
	if k := s.Kept(); len(k) != 65536 || k[65535] != 5 || k[65534] != 3 {
		t.Fatalf("Kept has %d", len(k))
	}
	wantErr(t, "Drop", s.Drop(65536), api.OK)
	wantKept(t, s)
}

// P5.5: what the heap refuses is refused, and nothing is collected for it.
func TestAllocRefused(t *testing.T) {
	s := loaded(t, two(), 0)
	for _, c := range []struct {
		class     api.Word
		n, format int
		want      api.Errno
	}{
		{0, 1, 0, api.ErrArg}, {4, -1, 0, api.ErrArg}, {4, 1, 2, api.ErrArg}, {4, 1, -1, api.ErrArg},
		{0, 8193, 0, api.ErrArg}, {4, 8193, 0, api.ErrSize}, {4, math.MaxInt, 1, api.ErrSize},
	} {
		if w, e := s.Alloc(c.class, c.n, c.format); w != 0 || e != c.want {
			t.Fatalf("Alloc(%d, %d, %d) = %d, %d, want %d", c.class, c.n, c.format, w, e, c.want)
		}
	}
	wantErr(t, "Mark", s.Heap().Mark(1), api.OK)
	wantAlloc(t, s, 1, 0, 0, api.ErrMarked)
	wantMarked(t, s, 0)
	wantState(t, s, two())
}

// P5.5: for want of words, and of oops, the space is collected; else it is not.
func TestAllocCollects(t *testing.T) {
	s := loaded(t, two(), 2)
	wantErr(t, "SetClass", s.Heap().SetClass(2, 8), api.OK)
	wantAlloc(t, s, 16, 0, 12, api.OK)
	wantAll(t, s, 1, 2, 3)
	wantAlloc(t, s, 0, 0, 16, api.OK)
	wantAll(t, s, 1, 2, 3, 4)
	// There is one word at the end, and of old ones 2 alone is live.
	wantAlloc(t, s, 24, 0, 4, api.OK)
	wantAll(t, s, 1, 2)
	few := made(t, 100, 2)
	wantAlloc(t, few, 0, 0, 4, api.OK)
	wantAlloc(t, few, 1, 0, 8, api.OK)
	wantErr(t, "Keep", few.Keep(8), api.OK)
	wantErr(t, "SetClass", few.Heap().SetClass(2, 8), api.OK)
	wantAlloc(t, few, 2, 0, 0, api.ErrFull)
	wantErr(t, "Put", few.Heap().Put(2, 0, 9), api.OK)
	wantAlloc(t, few, 2, 0, 4, api.OK)
	wantErr(t, "Keep", few.Keep(4), api.OK)
	wantAlloc(t, few, 0, 0, 0, api.ErrFull)
	wantAlloc(t, made(t, 0, 9), 0, 0, 0, api.ErrFull)
	wantAlloc(t, made(t, 9, 0), 0, 0, 0, api.ErrFull)
}

// P5.5: who is refused by ErrFull has collected.
func TestFullHasCollected(t *testing.T) {
	s := loaded(t, two(), 0)
	wantAlloc(t, s, 29, 0, 0, api.ErrFull)
	wantAll(t, s)
	wantAlloc(t, s, 28, 0, 4, api.OK)
}

// P5.5: a mark hits what has room behind the collection, and ErrFull uses none.
func TestAllocMarked(t *testing.T) {
	s := loaded(t, two(), 0)
	wantErr(t, "Mark", s.Heap().Mark(2), api.OK)
	wantAlloc(t, s, 29, 0, 0, api.ErrFull)
	wantMarked(t, s, 2)
	wantAlloc(t, s, 28, 0, 4, api.OK)
	wantMarked(t, s, 1)
	wantAlloc(t, s, 0, 0, 0, api.ErrMarked)
	wantMarked(t, s, 0)
	wantAll(t, s)
	wantAlloc(t, s, 0, 0, 4, api.OK)
}

// P5.5: what is allocated is not kept by that.
func TestAllocKeepsNothing(t *testing.T) {
	s := loaded(t, two(), 1)
	wantAlloc(t, s, 1, 0, 12, api.OK)
	wantRoom(t, s, 21, 4)
	wantCollect(t, s, 1, 3, api.OK)
	wantAlloc(t, s, 1, 0, 12, api.OK)
	wantErr(t, "SetRoot", s.SetRoot(1, 12), api.OK)
	wantCollect(t, s, 0, 0, api.OK)
	wantRoom(t, s, 18, 3)
}

// P5.6: the roots are the root and the words of the stack.
func TestCollect(t *testing.T) {
	state := api.HeapState{Words: 40, Oops: 9, Objects: []api.HeapObject{
		{Oop: 5, Class: 1, Slots: words(28)}, {Oop: 1, Class: 1}, {Oop: 7, Class: 8},
		{Oop: 2, Class: 1, Format: api.FormatBytes, Slots: words(4)}, {Oop: 3, Class: 1, Slots: words(1, 1)},
	}}
	s := loaded(t, state, 5)
	wantErr(t, "Keep", s.Keep(12, 7, 32, 12, 2), api.OK)
	wantRoom(t, s, 40-3-2-3-4, 5)
	wantState(t, s, state)
	wantCollect(t, s, 1, 2, api.OK)
	wantAll(t, s, 2, 3, 5, 7)
	wantCollect(t, s, 0, 0, api.OK)
	wantErr(t, "Drop", s.Drop(2), api.OK)
	wantCollect(t, s, 0, 0, api.OK)
	wantErr(t, "Drop", s.Drop(3), api.OK)
	wantCollect(t, s, 1, 4, api.OK)
	wantAll(t, s, 2, 5, 7)
	wantErr(t, "Free", s.Heap().Free(5), api.OK)
	wantRoom(t, s, 40, 9)
	wantCollect(t, s, 2, 8, api.OK)
	wantAll(t, s)
}

// P5.6: lengths of both formats, at their steps.
func TestRoom(t *testing.T) {
	for _, c := range []struct{ n, format, length int }{
		{0, 0, 2}, {1, 0, 3}, {4, 0, 6}, {8192, 0, 8194}, {0, 1, 2}, {1, 1, 3}, {3, 1, 3}, {4, 1, 3}, {5, 1, 4}, {8, 1, 4}, {9, 1, 5}, {8192, 1, 2050},
	} {
		s := made(t, 20000, 10)
		wantAlloc(t, s, c.n, c.format, 4, api.OK)
		wantRoom(t, s, 20000, 10)
		wantErr(t, "Keep", s.Keep(4), api.OK)
		wantRoom(t, s, 20000-c.length, 9)
		wantErr(t, "Begin", s.Begin(), api.OK)
		wantAlloc(t, s, c.n, c.format, 8, api.OK)
		wantRoom(t, s, 20000-c.length, 9)
		wantErr(t, "Keep", s.Keep(8), api.OK)
		wantRoom(t, s, 20000-2*c.length, 8)
		wantAll(t, s, 1, 2)
	}
}

// P5.7: the stack and the root's changes stay in all three.
func TestBracketLeavesTheStack(t *testing.T) {
	for _, end := range []func(s *space.Space) api.Errno{(*space.Space).Abort, (*space.Space).Commit} {
		s := loaded(t, two(), 1)
		wantErr(t, "Keep", s.Keep(8, 5), api.OK)
		wantErr(t, "Begin", s.Begin(), api.OK)
		wantKept(t, s, 8, 5)
		wantErr(t, "Drop", s.Drop(1), api.OK)
		wantErr(t, "Keep", s.Keep(7), api.OK)
		wantErr(t, "SetRoot", s.SetRoot(1, 33), api.OK)
		wantErr(t, "the end", end(s), api.OK)
		wantKept(t, s, 8, 7)
		wantRoot(t, s, 1, 33, api.OK)
		wantErr(t, "the end again", end(s), api.ErrPoint)
		wantErr(t, "Begin", s.Begin(), api.OK)
	}
}

// P5.7: nothing is collected in a bracket, and again behind it.
func TestNothingIsCollectedInABracket(t *testing.T) {
	for _, end := range []func(s *space.Space) api.Errno{(*space.Space).Abort, (*space.Space).Commit} {
		s := loaded(t, two(), 1)
		wantAlloc(t, s, 2, 0, 12, api.OK)
		wantErr(t, "Begin", s.Begin(), api.OK)
		wantAll(t, s, 1, 2)
		wantAlloc(t, s, 15, 0, 12, api.OK)
		was := s.Heap().State()
		wantAlloc(t, s, 10, 0, 0, api.ErrFull)
		wantCollect(t, s, 0, 0, api.ErrPoint)
		wantErr(t, "Begin", s.Begin(), api.ErrPoint)
		wantState(t, s, was)
		wantErr(t, "the end", end(s), api.OK)
		wantAlloc(t, s, 10, 0, 12, api.OK)
		wantAll(t, s, 1, 2, 3)
	}
}

// P5.7: Abort is refused by the heap, and the bracket is closed all the same.
func TestAbortRefused(t *testing.T) {
	for i, change := range []func(h *heap.Heap) api.Errno{
		func(h *heap.Heap) api.Errno { return h.Free(2) },
		func(h *heap.Heap) api.Errno { return h.Free(3) },
		func(h *heap.Heap) api.Errno { return h.Exchange(1, 2) },
		func(h *heap.Heap) api.Errno { return h.Back(h.Point()) },
		func(h *heap.Heap) api.Errno { _, _, e := h.Keep(h.All()); return e },
	} {
		s := loaded(t, two(), 1)
		wantErr(t, "Mark", s.Heap().Mark(9), api.OK)
		wantErr(t, "Begin", s.Begin(), api.OK)
		wantAlloc(t, s, 0, 0, 12, api.OK)
		wantErr(t, "the change", change(s.Heap()), api.OK)
		was := s.Heap().State()
		if e := s.Abort(); e != api.ErrPoint {
			t.Fatalf("row %d: Abort = %d", i, e)
		}
		wantState(t, s, was)
		wantMarked(t, s, 8)
		wantErr(t, "Abort", s.Abort(), api.ErrPoint)
		wantErr(t, "Commit", s.Commit(), api.ErrPoint)
		wantErr(t, "Begin", s.Begin(), api.OK)
	}
}

// P5.7: it refuses just then: not for what was refused, read or put meanwhile.
func TestAbortTaken(t *testing.T) {
	s := loaded(t, two(), 1)
	wantErr(t, "Begin", s.Begin(), api.OK)
	h := s.Heap()
	for _, oop := range noOops {
		wantErr(t, "Free", h.Free(oop), api.ErrOop)
		wantErr(t, "Exchange", h.Exchange(1, oop), api.ErrOop)
	}
	wantErr(t, "Put", h.Put(1, 1, 8), api.OK)
	wantErr(t, "SetClass", h.SetClass(2, 8), api.OK)
	wantErr(t, "Crown", s.Crown(2), api.OK)
	h.Point()
	s.Room()
	wantErr(t, "Abort", s.Abort(), api.OK)
	want := two()
	want.Objects[0].Slots[1], want.Objects[1].Class = 8, 8
	wantState(t, s, want)
}

// P5.7: what an Abort makes of the mark: at Begin, set since, left behind.
func TestMarkBehindABracket(t *testing.T) {
	const none = -1
	for i, c := range []struct{ mark, set, allocs, aborted, committed int }{
		{0, none, 2, 0, 0},
		{5, none, 0, 5, 5},
		{5, none, 2, 5, 3},
		{2, none, 1, 2, 1},
		{2, none, 2, 0, 0},
		{1, none, 1, 0, 0},
		{0, 4, 1, 3, 3},
		{0, 4, 0, 4, 4},
		{6, 3, 1, 6, 2},
		{6, 9, 0, 6, 9},
		{6, 0, 1, 0, 0},
		{6, 1, 1, 0, 0},
		{1 << 30, none, 2, 1 << 30, 1<<30 - 2},
	} {
		for _, abort := range []bool{true, false} {
			s := loaded(t, two(), 1)
			wantErr(t, "Mark", s.Heap().Mark(c.mark), api.OK)
			wantErr(t, "Begin", s.Begin(), api.OK)
			if c.set != none {
				wantErr(t, "Mark", s.Heap().Mark(c.set), api.OK)
			}
			for range c.allocs {
				s.Alloc(4, 0, 0)
			}
			end, left := s.Commit, c.committed
			if abort {
				end, left = s.Abort, c.aborted
			}
			wantErr(t, "the end", end(), api.OK)
			if got := s.Heap().Marked(); got != left {
				t.Errorf("row %d, abort %v: Marked = %d, want %d", i, abort, got, left)
			}
		}
	}
}

// P5.7: an Abort takes what was allocated since its own Begin, and no more.
func TestBracketsInTurn(t *testing.T) {
	s := loaded(t, two(), 1)
	wantErr(t, "Mark", s.Heap().Mark(20), api.OK)
	wantErr(t, "Begin", s.Begin(), api.OK)
	wantAlloc(t, s, 1, 0, 12, api.OK)
	wantErr(t, "SetRoot", s.SetRoot(1, 12), api.OK)
	wantErr(t, "Commit", s.Commit(), api.OK)
	wantErr(t, "Begin", s.Begin(), api.OK)
	wantMarked(t, s, 19)
	wantAlloc(t, s, 1, 0, 16, api.OK)
	wantErr(t, "Abort", s.Abort(), api.OK)
	wantAll(t, s, 1, 2, 3)
	wantMarked(t, s, 19)
	wantAlloc(t, s, 2, 0, 16, api.OK)
	wantErr(t, "Begin", s.Begin(), api.OK)
	wantAll(t, s, 1, 2, 3)
	wantErr(t, "Abort", s.Abort(), api.OK)
	wantAll(t, s, 1, 2, 3)
}

// P5.8: a chain through the whole heap is live, and is found without nesting.
func TestWholeHeapIsLive(t *testing.T) {
	s := made(t, 3*65536, 65536)
	wantAlloc(t, s, 1, 0, 4, api.OK)
	wantErr(t, "Crown", s.Crown(1), api.OK)
	for i := 2; i <= 65536; i++ {
		wantAlloc(t, s, 1, 0, api.Word(4*i), api.OK)
		wantErr(t, "Put", s.Heap().Put(i-1, 0, api.Word(4*i)), api.OK)
	}
	wantRoom(t, s, 0, 0)
	wantAlloc(t, s, 0, 0, 0, api.ErrFull)
	wantErr(t, "Put", s.Heap().Put(3, 0, 4), api.OK)
	wantRoom(t, s, 3*65533, 65533)
	wantAlloc(t, s, 0, 0, 16, api.OK)
	wantAll(t, s, 1, 2, 3, 4)
}
