package context_test

import (
	"math"
	"slices"
	"testing"

	"kiln/api"
	"kiln/context"
)

// P16.5: a stack is filled and emptied, cell by cell; temporaries stay, and
// what is popped is nil then.
func TestStack(t *testing.T) {
	for _, temps := range []int{0, 1, 32} {
		for _, stack := range []int{0, 1, 2, 7, 256} {
			k := booted(t, 2000, 100)
			c := made(t, k, plain(temps, stack))
			want := slots(k, c)
			for i := range stack {
				w := api.Word(2*i + 51)
				wantErr(t, "Push", context.Push(k, c, w), api.OK)
				want[9+temps+i] = w
				want[api.ContextTop] = api.Word(2*i + 3)
				if !slices.Equal(slots(k, c), want) {
					t.Fatalf("it has %d, want %d", slots(k, c), want)
				}
			}
			wantErr(t, "Push", context.Push(k, c, 3), api.ErrContext)
			for back := range stack {
				wantPeek(t, k, c, back, api.Word(2*(stack-1-back)+51), api.OK)
			}
			wantPeek(t, k, c, stack, 0, api.ErrContext)
			for i := stack - 1; i >= 0; i-- {
				wantPop(t, k, c, api.Word(2*i+51), api.OK)
				want[9+temps+i] = none
				want[api.ContextTop] = api.Word(2*i + 1)
				if !slices.Equal(slots(k, c), want) {
					t.Fatalf("it has %d, want %d", slots(k, c), want)
				}
			}
			wantPop(t, k, c, 0, api.ErrContext)
			wantPeek(t, k, c, 0, 0, api.ErrContext)
			if !slices.Equal(slots(k, c), want) {
				t.Fatalf("it has %d, want %d", slots(k, c), want)
			}
		}
	}
}

// P16.5: what is no word is told ahead of a stack that is full.
func TestPushed(t *testing.T) {
	k := booted(t, 2000, 100)
	c := made(t, k, plain(1, 6))
	was := slots(k, c)
	bad := []api.Word{0, -2, -4, 16386, 262148, 1<<31 + 1, -1<<31 - 1, math.MaxInt, math.MinInt}
	for _, w := range bad {
		wantErr(t, "Push", context.Push(k, c, w), api.ErrWord)
	}
	if !slices.Equal(slots(k, c), was) {
		t.Fatalf("it has %d, want %d", slots(k, c), was)
	}
	// Objects that are not there, and nil, are words.
	list := []api.Word{none, 2, -1, 16382, 262144, named(c)}
	for _, w := range list {
		wantErr(t, "Push", context.Push(k, c, w), api.OK)
	}
	for _, w := range bad {
		wantErr(t, "Push", context.Push(k, c, w), api.ErrWord)
	}
	wantErr(t, "Push", context.Push(k, c, none), api.ErrContext)
	for _, w := range slices.Backward(list) {
		wantPop(t, k, c, w, api.OK)
	}
}

// P16.5: cells that are not there.
func TestPeekOutside(t *testing.T) {
	k := booted(t, 2000, 100)
	c := made(t, k, plain(3, 3), 5, 5, 5)
	context.Push(k, c, 3)
	context.Push(k, c, 7)
	was := slots(k, c)
	for _, back := range []int{-1, -2, 2, 3, 4, math.MaxInt, math.MinInt} {
		wantPeek(t, k, c, back, 0, api.ErrContext)
	}
	wantPeek(t, k, c, 0, 7, api.OK)
	wantPeek(t, k, c, 1, 3, api.OK)
	if !slices.Equal(slots(k, c), was) {
		t.Fatalf("Peek has changed %d to %d", was, slots(k, c))
	}
}

// P16.5: a cell that no call filled is what it is; Push and Pop go by the top alone.
func TestCellsThatHoldNothing(t *testing.T) {
	k := booted(t, 2000, 100)
	c := made(t, k, plain(1, 3))
	put(t, k, c, 11, 77)
	wantPop(t, k, c, 0, api.ErrContext)
	wantErr(t, "Push", context.Push(k, c, 3), api.OK)
	wantPeek(t, k, c, 1, 0, api.ErrContext)
	wantErr(t, "Push", context.Push(k, c, 5), api.OK)
	wantPop(t, k, c, 5, api.OK)
	if at(k, c, 11) != none || at(k, c, 10) != 3 {
		t.Fatalf("it has %d", slots(k, c))
	}
}

// P16.10: what other contexts and collections do makes no difference to a stack.
func TestStackAmongOthers(t *testing.T) {
	k := booted(t, 400, 40)
	litter, _ := k.Space().Alloc(4*api.Array, 30, 0)
	one := made(t, k, plain(2, 4), 3, 5)
	two := made(t, k, below(one, one, 1, 4))
	if litter == 0 {
		t.Fatal("there is no litter")
	}
	for i := range 4 {
		context.Push(k, one, api.Word(2*i+101))
		context.Push(k, two, api.Word(2*i+201))
		k.Space().Collect()
		for range 9 {
			k.Space().Alloc(4*api.Array, 60, 0)
		}
	}
	for i := 3; i >= 0; i-- {
		wantPop(t, k, one, api.Word(2*i+101), api.OK)
		k.Space().Collect()
		wantPop(t, k, two, api.Word(2*i+201), api.OK)
	}
	wantTemp(t, k, two, 1, 0, 3, api.OK)
	wantTemp(t, k, two, 1, 1, 5, api.OK)
}

// M2: a cell that is popped holds on to nothing.
func TestPoppedLetsGo(t *testing.T) {
	k := booted(t, 400, 40)
	c := made(t, k, plain(0, 1))
	words, oops := k.Space().Room()
	w, _ := k.Space().Alloc(4*api.Array, 10, 0)
	context.Push(k, c, w)
	if a, b := k.Space().Room(); a != words-12 || b != oops-1 {
		t.Fatalf("Room = %d, %d", a, b)
	}
	wantPop(t, k, c, w, api.OK)
	if a, b := k.Space().Room(); a != words || b != oops {
		t.Fatalf("Room = %d, %d, want %d, %d", a, b, words, oops)
	}
}
