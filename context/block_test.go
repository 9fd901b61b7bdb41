package context_test

import (
	"math"
	"slices"
	"testing"

	"kiln/api"
	"kiln/context"
)

// P16.9: what a new block is, slot by slot; its context is as it was.
func TestNewBlock(t *testing.T) {
	k := booted(t, 20000, 900)
	x := plain(2, 2)
	x.Method, x.Receiver = 4*98, 14
	c := made(t, k, x, 5)
	was := slots(k, c)
	for _, start := range []int{0, 1, 4095, 4096} {
		for _, params := range []int{0, 1, 7, 8} {
			for _, temps := range []int{params, params + 1, 31, 32} {
				b := madeBlock(t, k, c, start, params, temps)
				want := []api.Word{named(c), 4 * 98, 14, api.Word(2*start + 1), api.Word(2*params + 1), api.Word(2*temps + 1)}
				if !slices.Equal(slots(k, b), want) {
					t.Fatalf("it has %d, want %d", slots(k, b), want)
				}
				of, _ := k.Space().Heap().Class(b)
				if _, format, _ := k.Space().Heap().Size(b); of != 4*api.Block || format != 0 {
					t.Fatalf("it is of the class %d and the format %d", of, format)
				}
				wantBlock(t, k, b, api.BlockInfo{Outer: named(c), Method: 4 * 98, Receiver: 14, Start: start, Params: params, Temps: temps}, api.OK)
			}
		}
	}
	if !slices.Equal(slots(k, c), was) {
		t.Fatalf("the context has %d, want %d", slots(k, c), was)
	}
}

// P16.9: the numbers, at their edges.
func TestNewBlockRefused(t *testing.T) {
	k := booted(t, 2000, 100)
	c := made(t, k, plain(1, 1))
	was := seen(k)
	for _, n := range [][3]int{
		{-1, 0, 0}, {4097, 0, 0}, {math.MaxInt, 0, 0}, {math.MinInt, 0, 0},
		{0, -1, 0}, {0, -1, -1}, {0, 9, 9}, {0, 9, 32}, {0, math.MaxInt, 0}, {0, math.MinInt, 0}, {0, math.MaxInt, math.MaxInt},
		{0, 0, -1}, {0, 2, 1}, {0, 8, 7}, {0, 0, 33}, {0, 8, 33}, {0, 0, math.MaxInt}, {0, 0, math.MinInt},
	} {
		wantNoBlock(t, k, c, n[0], n[1], n[2], api.ErrArg)
		k.Space().Heap().Mark(1)
		wantNoBlock(t, k, c, n[0], n[1], n[2], api.ErrArg)
		k.Space().Heap().Mark(0)
	}
	if seen(k) != was {
		t.Fatal("what is refused has changed something")
	}
}

// P16.9: what is nearly a block.
func TestNearlyBlocks(t *testing.T) {
	k := booted(t, 2000, 100)
	c := made(t, k, plain(1, 1))
	b := madeBlock(t, k, c, 3, 1, 2)
	good := api.BlockInfo{Outer: named(c), Method: 7, Receiver: 9, Start: 3, Params: 1, Temps: 2}
	for _, slot := range []int{api.BlockStart, api.BlockParams, api.BlockTemps} {
		was := at(k, b, slot)
		for _, bad := range []api.Word{none, 2, 60, -1, -2147483647} {
			put(t, k, b, slot, bad)
			wantBlock(t, k, b, api.BlockInfo{}, api.ErrContext)
		}
		put(t, k, b, slot, was)
		wantBlock(t, k, b, good, api.OK)
	}
	for _, bad := range []api.Word{none, 2, 3, 60, 72, named(b), 4 * 99} {
		put(t, k, b, api.BlockOuter, bad)
		wantBlock(t, k, b, api.BlockInfo{}, api.ErrContext)
	}
	put(t, k, b, api.BlockOuter, named(c))
	for _, bad := range []api.Word{60, 4 * api.Array, 4 * api.Object, 3, 2, 4 * 99} {
		k.Space().Heap().SetClass(b, bad)
		wantBlock(t, k, b, api.BlockInfo{}, api.ErrContext)
	}
	k.Space().Heap().SetClass(b, 4*api.Block)
	wantBlock(t, k, b, good, api.OK)
	// Its method and receiver may be anything, and its numbers as great as may be.
	put(t, k, b, api.BlockMethod, 4*99)
	put(t, k, b, api.BlockReceiver, 2)
	for _, slot := range []int{api.BlockStart, api.BlockParams, api.BlockTemps} {
		put(t, k, b, slot, 1<<31-1)
	}
	wantBlock(t, k, b, api.BlockInfo{Outer: named(c), Method: 4 * 99, Receiver: 2, Start: 1<<30 - 1, Params: 1<<30 - 1, Temps: 1<<30 - 1}, api.OK)
}

// P16.9: a block has six slots of words, no fewer and no more.
func TestSlotsOfBlocks(t *testing.T) {
	k := booted(t, 2000, 100)
	c := made(t, k, plain(1, 1))
	for size := range 10 {
		for format := range 2 {
			w, _ := k.Space().Alloc(4*api.Block, size, format)
			b := int(w / 4)
			for i := range size {
				put(t, k, b, i, 1)
			}
			k.Space().Heap().Put(b, 0, named(c))
			if size == 6 && format == 0 {
				wantBlock(t, k, b, api.BlockInfo{Outer: named(c), Method: 1, Receiver: 1}, api.OK)
				continue
			}
			wantBlock(t, k, b, api.BlockInfo{}, api.ErrContext)
		}
	}
}

// P16.9: a block stays what it is when its context goes on, and when it is over.
func TestBlockStays(t *testing.T) {
	k := booted(t, 400, 40)
	a := made(t, k, plain(1, 1), 5)
	c, _ := context.New(k, below(a, 0, 1, 1), []api.Word{11})
	b := madeBlock(t, k, c, 3, 1, 2)
	context.Push(k, c, 3)
	context.Go(k, c, 99)
	context.Cut(k, c)
	k.Space().Collect()
	want := api.BlockInfo{Outer: named(c), Method: 7, Receiver: 9, Start: 3, Params: 1, Temps: 2}
	wantBlock(t, k, b, want, api.OK)
	put(t, k, c, api.ContextMethod, 15)
	put(t, k, c, api.ContextReceiver, 15)
	wantBlock(t, k, b, want, api.OK)
	d := made(t, k, below(a, c, 1, 0))
	wantTemp(t, k, d, 1, 0, 11, api.OK)
	wantHome(t, k, d, c, api.OK)
}
