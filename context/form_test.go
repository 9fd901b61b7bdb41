package context_test

import (
	"testing"

	"kiln/api"
	"kiln/class"
	"kiln/context"
)

// wantNone holds that an oop is no context's, whoever asks.
func wantNone(t *testing.T, k *class.Kernel, c int) {
	t.Helper()
	for i, e := range refusals(k, c) {
		if e != api.ErrContext {
			t.Fatalf("call %d of %d, which has %d, = %d", i, c, slots(k, c), e)
		}
	}
	wantNew(t, k, below(c, 0, 0, 0), api.ErrContext)
	wantNew(t, k, below(0, c, 0, 0), api.ErrContext)
}

// Words: slots that must be integers from 0 on.
func TestNearlyContexts(t *testing.T) {
	for _, slot := range []int{api.ContextPc, api.ContextDepth, api.ContextTop, api.ContextTemps, api.ContextStart} {
		for _, bad := range []api.Word{none, 2, 60, 72, -1, -2147483647, 4 * 99} {
			k := booted(t, 2000, 100)
			c := made(t, k, plain(2, 2))
			d := made(t, k, below(0, c, 0, 0))
			b := madeBlock(t, k, c, 0, 0, 0)
			was := at(k, c, slot)
			put(t, k, c, slot, bad)
			wantNone(t, k, c)
			wantTemp(t, k, d, 1, 0, 0, api.ErrContext)
			wantHome(t, k, d, 0, api.ErrContext)
			wantBlock(t, k, b, api.BlockInfo{}, api.ErrContext)
			put(t, k, c, slot, was)
			wantTemp(t, k, d, 1, 0, none, api.OK)
			wantBlock(t, k, b, api.BlockInfo{Outer: named(c), Method: 7, Receiver: 9}, api.OK)
		}
	}
}

// Words: temporaries and cells that there are no slots for.
func TestSlotsOfContexts(t *testing.T) {
	for size := 7; size < 14; size++ {
		for temps := range 6 {
			for top := range 6 {
				k := booted(t, 2000, 100)
				w, _ := k.Space().Alloc(60, size, 0)
				k.Space().Keep(w)
				c := int(w / 4)
				for i := range min(9, size) {
					put(t, k, c, i, 1)
				}
				k.Space().Heap().Put(c, api.ContextTop, api.Word(2*top+1))
				k.Space().Heap().Put(c, api.ContextTemps, api.Word(2*temps+1))
				if size < 9 || temps+top > size-9 {
					wantNone(t, k, c)
					continue
				}
				wantInfo(t, k, c, api.ContextInfo{Sender: 1, Method: 1, Receiver: 1, Outer: 1, Top: top, Temps: temps, Stack: size - 9 - temps})
			}
		}
	}
	k := booted(t, 2000, 100)
	c := made(t, k, plain(2, 2))
	put(t, k, c, api.ContextTemps, 1<<31-1)
	wantNone(t, k, c)
	put(t, k, c, api.ContextTemps, 1)
	put(t, k, c, api.ContextTop, 1<<31-1)
	wantNone(t, k, c)
}

// Words: integers as great as may be, and more slots than New gives.
func TestGreatContexts(t *testing.T) {
	k := booted(t, 20000, 100)
	w, _ := k.Space().Alloc(60, api.MaxSlots, 0)
	k.Space().Keep(w)
	c := int(w / 4)
	for i := range 9 {
		put(t, k, c, i, 1<<31-1)
	}
	put(t, k, c, api.ContextTop, 2*5000+1)
	put(t, k, c, api.ContextTemps, 2*3000+1)
	most := 1<<30 - 1
	wantInfo(t, k, c, api.ContextInfo{
		Sender: 1<<31 - 1, Method: 1<<31 - 1, Receiver: 1<<31 - 1, Outer: 1<<31 - 1,
		Pc: most, Depth: most, Start: most, Top: 5000, Temps: 3000, Stack: 8192 - 9 - 3000,
	})
	wantErr(t, "SetTemp", context.SetTemp(k, c, 0, 2999, 7), api.OK)
	wantTemp(t, k, c, 0, 3000, 0, api.ErrSlot)
	wantErr(t, "Push", context.Push(k, c, 5), api.OK)
	if at(k, c, 9+2999) != 7 || at(k, c, 9+3000+5000) != 5 {
		t.Fatal("it is stored elsewhere")
	}
	wantNew(t, k, below(c, 0, 0, 0), api.ErrDeepRun)
}

// Words: other classes and formats.
func TestClassesOfContexts(t *testing.T) {
	k := booted(t, 2000, 100)
	c := made(t, k, plain(0, 2))
	b := madeBlock(t, k, c, 0, 0, 0)
	for _, bad := range []api.Word{4 * api.Block, 4 * api.Array, 4 * api.Object, 4 * api.Class, 4 * api.Method, 3, 2, none, 4 * 99, named(c)} {
		k.Space().Heap().SetClass(c, bad)
		wantNone(t, k, c)
		wantBlock(t, k, b, api.BlockInfo{}, api.ErrContext)
		k.Space().Heap().SetClass(c, 60)
		wantBlock(t, k, b, api.BlockInfo{Outer: named(c), Method: 7, Receiver: 9}, api.OK)
	}
	w, _ := k.Space().Alloc(60, 12, 1)
	for i := range 9 {
		put(t, k, int(w/4), i, 1)
	}
	wantNone(t, k, int(w/4))
}

// Words: classes are known by their fixed oops, whatever the kernel's own objects hold.
func TestSpoiltKernelObjects(t *testing.T) {
	k := booted(t, 2000, 100)
	c := made(t, k, plain(1, 1), 5)
	b := madeBlock(t, k, c, 1, 0, 0)
	for _, oop := range []int{api.Context, api.Block, api.Class, api.Classes, api.Root, api.Object} {
		for i := range 7 {
			put(t, k, oop, i, 3)
		}
		k.Space().Heap().SetClass(oop, 3)
	}
	wantTemp(t, k, c, 0, 0, 5, api.OK)
	wantChain(t, k, c, api.OK, c)
	wantBlock(t, k, b, api.BlockInfo{Outer: named(c), Method: 7, Receiver: 9, Start: 1}, api.OK)
	d := made(t, k, below(c, c, 1, 1))
	wantHome(t, k, d, c, api.OK)
	madeBlock(t, k, d, 1, 0, 0)
}

// Words: nil ends a way, even where the object 1 has the form of a context.
func TestNilIsTheEnd(t *testing.T) {
	k := booted(t, 2000, 100)
	c := made(t, k, plain(1, 1), 5)
	d := made(t, k, below(c, c, 1, 1), 7)
	k.Space().Heap().Exchange(1, c)
	wantChain(t, k, d, api.ErrContext)
	put(t, k, d, api.ContextSender, none)
	put(t, k, d, api.ContextOuter, none)
	wantChain(t, k, d, api.OK, d)
	wantHome(t, k, d, d, api.OK)
	wantChain(t, k, 1, api.OK, 1)
	wantHome(t, k, 1, 1, api.OK)
	wantTemp(t, k, 1, 0, 0, 5, api.OK)
	wantTemp(t, k, d, 1, 0, 0, api.ErrContext)
}
