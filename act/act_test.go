package act_test

import (
	"slices"
	"testing"

	"kiln/act"
	"kiln/api"
	"kiln/space"
	"kiln/symbol"
)

// begun is an act over a space with room for so many words, in which one
// object is kept, and over symbols of which two are there and one more has room.
func begun(t *testing.T, words int) (*act.Act, *space.Space, *symbol.Table) {
	t.Helper()
	s, e := space.New(words, 10)
	if e != api.OK {
		t.Fatalf("New = %d", e)
	}
	x, e := symbol.Load([]string{"a", "b"}, 3)
	if e != api.OK {
		t.Fatalf("Load = %d", e)
	}
	s.Alloc(4, 1, 0)
	s.Keep(4)
	s.Heap().Mark(9)
	return act.Begin(s, x), s, x
}

func wantErr(t *testing.T, what string, got, want api.Errno) {
	t.Helper()
	if got != want {
		t.Fatalf("%s = %d, want %d", what, got, want)
	}
}

func wantState(t *testing.T, s *space.Space, x *symbol.Table, mark, symbols int, kept ...api.Word) {
	t.Helper()
	if s.Heap().Marked() != mark || x.Count() != symbols || !slices.Equal(s.Kept(), kept) {
		t.Fatalf("the mark %d, %d symbols, %d kept, want %d, %d, %d", s.Heap().Marked(), x.Count(), s.Kept(), mark, symbols, kept)
	}
}

// M2, M3: what is made is whole, and kept till the act ends.
func TestMakes(t *testing.T) {
	a, s, x := begun(t, 20)
	list, e := a.Symbols("b", "c", "a")
	if e != api.OK || !slices.Equal(list, []api.Word{6, 10, 2}) {
		t.Fatalf("Symbols = %d, %d", list, e)
	}
	w, e := a.Array(list...)
	if w != 8 || e != api.OK {
		t.Fatalf("Array = %d, %d", w, e)
	}
	v, e := a.Make(api.Object, 3, 8)
	if v != 12 || e != api.OK {
		t.Fatalf("Make = %d, %d", v, e)
	}
	none, e := a.Array()
	if none != 4*api.Empty || e != api.OK {
		t.Fatalf("Array of nothing = %d, %d", none, e)
	}
	wantErr(t, "Keep", a.Keep(5, 7), api.OK)
	wantState(t, s, x, 7, 3, 4, 8, 12, 5, 7)
	s.Collect()
	objects := s.Heap().State().Objects
	if len(objects) != 3 || objects[1].Class != 4*api.Array || objects[2].Class != 4*api.Object {
		t.Fatalf("the objects %v", objects)
	}
	if !slices.Equal(objects[1].Slots, list) || !slices.Equal(objects[2].Slots, []api.Word{3, 8}) {
		t.Fatalf("the objects %v", objects)
	}
	wantErr(t, "End", a.End(api.OK), api.OK)
	wantState(t, s, x, 7, 3, 4)
}

// M3: a String has a text's bytes; the empty one is made, too.
func TestStrings(t *testing.T) {
	a, s, x := begun(t, 20)
	for i, text := range []string{"a\x00\xff'z", "", "four"} {
		if w, e := a.String(text); w != api.Word(8+4*i) || e != api.OK {
			t.Fatalf("String(%q) = %d, %d", text, w, e)
		}
	}
	wantState(t, s, x, 6, 2, 4, 8, 12, 16)
	s.Collect()
	objects := s.Heap().State().Objects
	for i, slots := range [][]api.Word{{97, 0, 255, 39, 122}, nil, {102, 111, 117, 114}} {
		o := objects[i+1]
		if o.Class != 4*api.String || o.Format != api.FormatBytes || !slices.Equal(o.Slots, slots) {
			t.Fatalf("the String is %v, want %d", o, slots)
		}
	}
	if w, e := a.String("this is too long, for there is no room for it in the heap"); w != 0 || e != api.ErrFull {
		t.Fatalf("String = %d, %d", w, e)
	}
	a.End(api.OK)
	wantState(t, s, x, 6, 2, 4)
}

// What is laid has its first slots filled, and is not kept.
func TestLay(t *testing.T) {
	_, s, x := begun(t, 20)
	for i, c := range []struct {
		class, format, n int
		first, want      []api.Word
	}{
		{api.Array, 0, 3, []api.Word{5, 8}, []api.Word{5, 8, 4}}, {api.String, 1, 3, []api.Word{255}, []api.Word{255, 0, 0}},
		{api.Object, 0, 0, nil, nil}, {api.Block, 0, 1, []api.Word{7}, []api.Word{7}},
	} {
		w, e := act.Lay(s, c.class, c.format, c.n, c.first...)
		if w != api.Word(8+4*i) || e != api.OK {
			t.Fatalf("Lay(%v) = %d, %d", c, w, e)
		}
		objects := s.Heap().State().Objects
		if o := objects[i+1]; o.Class != api.Word(4*c.class) || o.Format != c.format || !slices.Equal(o.Slots, c.want) {
			t.Fatalf("the object is %v, want %v", o, c)
		}
	}
	wantState(t, s, x, 5, 2, 4)
	// There is no room but what is laid already, which goes.
	if w, e := act.Lay(s, api.Array, 0, 15); w != 8 || e != api.OK {
		t.Fatalf("Lay = %d, %d", w, e)
	}
	for _, c := range []struct {
		class, format, n int
		e                api.Errno
	}{{0, 0, 0, api.ErrArg}, {65537, 0, 0, api.ErrArg}, {4, 2, 0, api.ErrArg}, {4, 0, -1, api.ErrArg}, {4, 0, 8193, api.ErrSize}, {4, 0, 16, api.ErrFull}} {
		if w, e := act.Lay(s, c.class, c.format, c.n); w != 0 || e != c.e {
			t.Fatalf("Lay(%v) = %d, %d", c, w, e)
		}
	}
	if w, e := act.Lay(s, 4, 0, 1, 0); w != 0 || e != api.ErrWord {
		t.Fatalf("Lay of no word = %d, %d", w, e)
	}
	if w, e := act.Lay(nil, 4, 0, 1, 3); w != 0 || e != api.ErrNil {
		t.Fatalf("Lay without a space = %d, %d", w, e)
	}
}

// A String that is laid has a text's bytes, and is not kept.
func TestLayString(t *testing.T) {
	_, s, x := begun(t, 20)
	for i, text := range []string{"a\x00\xffz'", "", "four"} {
		w, e := act.LayString(s, text)
		if w != api.Word(8+4*i) || e != api.OK {
			t.Fatalf("LayString(%q) = %d, %d", text, w, e)
		}
		var slots []api.Word
		for _, b := range []byte(text) {
			slots = append(slots, api.Word(b))
		}
		o := s.Heap().State().Objects[i+1]
		if o.Class != 4*api.String || o.Format != api.FormatBytes || !slices.Equal(o.Slots, slots) {
			t.Fatalf("the String is %v, want %d", o, slots)
		}
	}
	wantState(t, s, x, 6, 2, 4)
	if w, e := act.LayString(s, "this is too long, for there is no room for it in the heap, though all else goes"); w != 0 || e != api.ErrFull {
		t.Fatalf("LayString = %d, %d", w, e)
	}
	if w, e := act.LayString(nil, "a"); w != 0 || e != api.ErrNil {
		t.Fatalf("LayString without a space = %d, %d", w, e)
	}
}

// M4: what an act added and counted is given back also where it goes on.
func TestBack(t *testing.T) {
	a, s, x := begun(t, 20)
	a.Symbols("c")
	a.Array(5)
	a.Back()
	wantState(t, s, x, 9, 2, 4, 8)
	a.Symbols("d")
	wantErr(t, "End", a.End(api.OK), api.OK)
	wantState(t, s, x, 9, 3, 4)
}

// M4: what is refused gives back its symbols and the mark's count.
func TestRefused(t *testing.T) {
	a, s, x := begun(t, 20)
	a.Symbols("c")
	a.Array(5)
	wantErr(t, "End", a.End(api.ErrName), api.ErrName)
	wantState(t, s, x, 9, 2, 4)
	wantErr(t, "End again", a.End(api.ErrName), api.ErrName)
	wantState(t, s, x, 9, 2, 4)
}

// M4: a mark that hit is used up.
func TestMarked(t *testing.T) {
	_, s, x := begun(t, 20)
	s.Heap().Mark(2)
	a := act.Begin(s, x)
	a.Array(5)
	w, e := a.Array(5)
	if w != 0 || e != api.ErrMarked {
		t.Fatalf("Array = %d, %d", w, e)
	}
	a.End(e)
	wantState(t, s, x, 0, 2, 4)
}

// What cannot be done is told, and nothing is kept by it.
func TestErrors(t *testing.T) {
	a, s, x := begun(t, 9)
	list, e := a.Symbols("a", "c", "d")
	if list != nil || e != api.ErrSymbols {
		t.Fatalf("Symbols = %d, %d", list, e)
	}
	for _, c := range []struct {
		class int
		slots []api.Word
		e     api.Errno
	}{
		{0, nil, api.ErrArg}, {65537, nil, api.ErrArg},
		{4, make([]api.Word, 8193), api.ErrSize},
		{4, make([]api.Word, 5), api.ErrFull},
		{4, []api.Word{3, 0}, api.ErrWord},
	} {
		if w, e := a.Make(c.class, c.slots...); w != 0 || e != c.e {
			t.Fatalf("Make(%d, %d slots) = %d, %d, want 0, %d", c.class, len(c.slots), w, e, c.e)
		}
	}
	wantErr(t, "Keep", a.Keep(3, 0), api.ErrWord)
	wantState(t, s, x, 8, 3, 4)
	a.End(api.ErrFull)
	wantState(t, s, x, 9, 2, 4)
}

// Where the space's stack has no room, what is made is not answered.
func TestStackIsFull(t *testing.T) {
	_, s, x := begun(t, 20)
	for len(s.Kept()) < api.MaxKept {
		s.Keep(make4(min(1024, api.MaxKept-len(s.Kept())))...)
	}
	a := act.Begin(s, x)
	w, e := a.Make(4)
	if w != 0 || e != api.ErrSize {
		t.Fatalf("Make = %d, %d", w, e)
	}
	a.End(e)
	if len(s.Kept()) != api.MaxKept {
		t.Fatalf("%d are kept", len(s.Kept()))
	}
}

func make4(n int) []api.Word {
	list := make([]api.Word, n)
	for i := range list {
		list[i] = 4
	}
	return list
}

// A space and symbols that are not there: every call ends.
func TestNothing(t *testing.T) {
	for _, a := range []*act.Act{act.Begin(nil, nil), act.Begin(new(space.Space), new(symbol.Table))} {
		if list, e := a.Symbols("a"); list != nil || e != api.ErrNil {
			t.Fatalf("Symbols = %d, %d", list, e)
		}
		if w, e := a.Make(4, 4); w != 0 || e != api.ErrNil {
			t.Fatalf("Make = %d, %d", w, e)
		}
		if w, e := a.String("a"); w != 0 || e != api.ErrNil {
			t.Fatalf("String = %d, %d", w, e)
		}
		a.Back()
		wantErr(t, "Keep", a.Keep(4), api.ErrNil)
		wantErr(t, "End", a.End(api.ErrNil), api.ErrNil)
	}
}
