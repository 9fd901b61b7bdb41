package context_test

import (
	"slices"
	"testing"

	"kiln/api"
	"kiln/class"
	"kiln/context"
)

// filled is a kernel with one context that is kept, and so much room beside it.
func filled(t *testing.T, words, oops int) (*class.Kernel, int) {
	t.Helper()
	k := booted(t, 160+14+words, 20+1+oops)
	return k, made(t, k, plain(2, 1), 5)
}

// P16.2, P16.9: one object is allocated, as long as the table says, with a mark or without.
func TestRoom(t *testing.T) {
	k, c := filled(t, 23, 2)
	d := made(t, k, below(c, c, 1, 3)) // 2 + 9 + 1 + 3
	if words, oops := k.Space().Room(); words != 8 || oops != 1 {
		t.Fatalf("Room = %d, %d", words, oops)
	}
	wantNew(t, k, below(d, 0, 0, 0), api.ErrFull)
	b := madeBlock(t, k, d, 1, 1, 1) // 2 + 6
	if words, oops := k.Space().Room(); words != 0 || oops != 0 {
		t.Fatalf("Room = %d, %d", words, oops)
	}
	was := seen(k)
	k.Space().Heap().Mark(1)
	wantNew(t, k, plain(0, 0), api.ErrFull)
	wantNoBlock(t, k, c, 1, 1, 1, api.ErrFull)
	if k.Space().Heap().Marked() != 1 {
		t.Fatalf("the mark is %d", k.Space().Heap().Marked())
	}
	k.Space().Heap().Mark(0)
	if seen(k) != was {
		t.Fatal("what is refused has changed something")
	}
	wantBlock(t, k, b, api.BlockInfo{Outer: named(d), Method: 7, Receiver: 9, Start: 1, Params: 1, Temps: 1}, api.OK)
	// One word less than is needed, and one oop less.
	k, c = filled(t, 14, 9)
	wantNew(t, k, below(c, 0, 1, 3), api.ErrFull)
	k, c = filled(t, 7, 9)
	wantNoBlock(t, k, c, 0, 0, 0, api.ErrFull)
	k, c = filled(t, 99, 0)
	wantNew(t, k, below(c, 0, 0, 0), api.ErrFull)
	wantNoBlock(t, k, c, 0, 0, 0, api.ErrFull)
}

// P16.2, P16.9: a mark that hits is used up, and nothing is made; one that does not counts.
func TestMarks(t *testing.T) {
	k, c := filled(t, 200, 20)
	was := seen(k)
	k.Space().Heap().Mark(1)
	wantNew(t, k, below(c, c, 1, 1), api.ErrMarked)
	if seen(k) != was {
		t.Fatal("what is refused has changed something")
	}
	k.Space().Heap().Mark(1)
	wantNoBlock(t, k, c, 0, 0, 0, api.ErrMarked)
	if seen(k) != was {
		t.Fatal("what is refused has changed something")
	}
	k.Space().Heap().Mark(3)
	made(t, k, below(c, c, 1, 1))
	madeBlock(t, k, c, 0, 0, 0)
	if n := k.Space().Heap().Marked(); n != 1 {
		t.Fatalf("the mark is %d", n)
	}
	// All other calls allocate nothing.
	context.Push(k, c, 3)
	context.Peek(k, c, 0)
	context.SetTemp(k, c, 0, 0, 3)
	context.Temp(k, c, 0, 0)
	context.Pop(k, c)
	context.Home(k, c)
	context.Chain(k, c)
	context.Go(k, c, 1)
	context.Cut(k, c)
	context.Info(k, c)
	if n := k.Space().Heap().Marked(); n != 1 {
		t.Fatalf("the mark is %d", n)
	}
}

// P16.2, P16.9: where there is no room it is collected, but not within a bracket.
func TestCollects(t *testing.T) {
	k, c := filled(t, 40, 9)
	for range 9 {
		d, e := context.New(k, below(c, c, 2, 2), []api.Word{3})
		wantErr(t, "New", e, api.OK)
		wantTemp(t, k, d, 1, 0, 5, api.OK)
		b, e := context.NewBlock(k, c, 1, 0, 0)
		wantErr(t, "NewBlock", e, api.OK)
		wantBlock(t, k, b, api.BlockInfo{Outer: named(c), Method: 7, Receiver: 9, Start: 1}, api.OK)
	}
	wantTemp(t, k, c, 0, 0, 5, api.OK)
	k.Space().Begin()
	_, e := context.New(k, below(c, c, 20, 9), nil)
	wantErr(t, "New", e, api.OK)
	wantNew(t, k, below(c, c, 20, 9), api.ErrFull)
	wantNoBlock(t, k, c, 0, 0, 0, api.ErrFull)
	k.Space().Commit()
	_, e = context.New(k, below(c, c, 20, 9), nil)
	wantErr(t, "New", e, api.OK)
}

// P16.2: nothing is kept by New: its sender and outer may go with its own
// allocation, and it is told as they were.
func TestNewTakesAway(t *testing.T) {
	k := booted(t, 160+30, 20+2)
	a, _ := context.New(k, plain(1, 1), []api.Word{3}) // 13 words
	b, _ := context.New(k, below(a, 0, 1, 1), nil)     // 13 more
	if a != 21 || b != 22 {
		t.Fatalf("they are %d, %d", a, b)
	}
	x := below(b, a, 2, 0)
	c, e := context.New(k, x, []api.Word{named(a), named(b)})
	if c != 21 || e != api.OK {
		t.Fatalf("New = %d, %d", c, e)
	}
	want := []api.Word{88, 7, 1, 9, 84, 7, 1, 5, 1, 84, 88}
	if !slices.Equal(slots(k, c), want) {
		t.Fatalf("it has %d, want %d", slots(k, c), want)
	}
	wantNoInfo(t, k, b)
	wantChain(t, k, c, api.ErrContext)
	wantHome(t, k, c, 0, api.ErrContext) // it is its own outer now
}

// P16.9: the context may go with the block's own allocation; its method and
// receiver are those that it had.
func TestNewBlockTakesAway(t *testing.T) {
	k := booted(t, 160+13, 20+1)
	x := plain(1, 1)
	x.Method, x.Receiver = 77, 79
	c, _ := context.New(k, x, nil)
	b, e := context.NewBlock(k, c, 5, 1, 2)
	if b != 21 || e != api.OK {
		t.Fatalf("NewBlock = %d, %d", b, e)
	}
	if want := []api.Word{84, 77, 79, 11, 3, 5}; !slices.Equal(slots(k, b), want) {
		t.Fatalf("it has %d, want %d", slots(k, b), want)
	}
	wantBlock(t, k, b, api.BlockInfo{}, api.ErrContext) // its outer is itself
	// With two oops the block has another one, and its outer is not there.
	k = booted(t, 160+13, 20+2)
	litter, _ := k.Space().Alloc(4, 0, 0)
	c, _ = context.New(k, plain(0, 0), nil)
	b, e = context.NewBlock(k, c, 5, 1, 2)
	if litter != 84 || c != 22 || b != 21 || e != api.OK {
		t.Fatalf("NewBlock = %d, %d", b, e)
	}
	wantBlock(t, k, b, api.BlockInfo{}, api.ErrContext)
}

// P16.2, P16.9: nothing is put on the space's stack, also where it is full.
func TestStackOfTheSpace(t *testing.T) {
	k, c := filled(t, 400, 40)
	list := make([]api.Word, api.MaxKept-1)
	for i := range list {
		list[i] = 3
	}
	k.Space().Keep(list...)
	was := k.Space().Kept()
	d, e := context.New(k, below(c, c, 1, 1), []api.Word{3})
	wantErr(t, "New", e, api.OK)
	wantHome(t, k, d, c, api.OK)
	_, e = context.NewBlock(k, d, 0, 0, 0)
	wantErr(t, "NewBlock", e, api.OK)
	if !slices.Equal(k.Space().Kept(), was) {
		t.Fatalf("%d words are kept", len(k.Space().Kept()))
	}
}

// M2: a chain is live by its first context, as outers are, and what is cut off is not.
func TestLive(t *testing.T) {
	k := booted(t, 400, 40)
	a, _ := context.New(k, plain(0, 0), nil)
	b, _ := context.New(k, below(a, 0, 0, 0), nil)
	c := made(t, k, below(b, 0, 0, 0))
	k.Space().Collect()
	wantChain(t, k, c, api.OK, c, b, a)
	context.Cut(k, b)
	k.Space().Collect()
	wantChain(t, k, c, api.OK, c, b)
	wantNoInfo(t, k, a)
	context.Cut(k, c)
	k.Space().Collect()
	wantNoInfo(t, k, b)
}
