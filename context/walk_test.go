package context_test

import (
	"math"
	"slices"
	"testing"

	"kiln/api"
	"kiln/class"
	"kiln/context"
)

// nested is n contexts, each the next one's outer or sender; the last is the innermost.
func nested(t *testing.T, k *class.Kernel, n, slot int) []int {
	t.Helper()
	var list []int
	for i := range n {
		c := made(t, k, plain(2, 0), api.Word(2*i+1))
		if i > 0 {
			put(t, k, c, slot, named(list[i-1]))
		}
		list = append(list, c)
	}
	return list
}

// P16.6: each temporary from each context around.
func TestOutward(t *testing.T) {
	k := booted(t, 2000, 100)
	list := nested(t, k, 6, api.ContextOuter)
	for i, c := range list {
		for outward := range 8 {
			if outward > i {
				wantTemp(t, k, c, outward, 0, 0, api.ErrContext)
				wantErr(t, "SetTemp", context.SetTemp(k, c, outward, 0, 3), api.ErrContext)
				continue
			}
			wantTemp(t, k, c, outward, 0, api.Word(2*(i-outward)+1), api.OK)
			wantTemp(t, k, c, outward, 1, none, api.OK)
		}
	}
}

// P16.6, P16.10: what is stored by one way is seen by all.
func TestSetTemp(t *testing.T) {
	k := booted(t, 2000, 100)
	list := nested(t, k, 6, api.ContextOuter)
	n := api.Word(101)
	for i := range list {
		for outward := range i + 1 {
			n += 2
			wantErr(t, "SetTemp", context.SetTemp(k, list[i], outward, 1, n), api.OK)
			for j := i - outward; j < len(list); j++ {
				wantTemp(t, k, list[j], j-(i-outward), 1, n, api.OK)
				wantTemp(t, k, list[j], j-(i-outward), 0, api.Word(2*(i-outward)+1), api.OK)
			}
		}
	}
}

// P16.6: two contexts in one outer share its temporaries, and have their own.
func TestShared(t *testing.T) {
	k := booted(t, 2000, 100)
	outer := made(t, k, plain(1, 0), 3)
	a := made(t, k, below(0, outer, 1, 0), 5)
	b := made(t, k, below(a, outer, 1, 0), 7)
	wantErr(t, "SetTemp", context.SetTemp(k, a, 1, 0, 11), api.OK)
	wantTemp(t, k, b, 1, 0, 11, api.OK)
	wantErr(t, "SetTemp", context.SetTemp(k, b, 0, 0, 13), api.OK)
	wantTemp(t, k, a, 0, 0, 5, api.OK)
	wantTemp(t, k, b, 0, 0, 13, api.OK)
	wantTemp(t, k, outer, 0, 0, 11, api.OK)
}

// P16.6: the errors, in their order; cells are no temporaries.
func TestTempRefused(t *testing.T) {
	k := booted(t, 2000, 100)
	outer := made(t, k, plain(1, 2), 3)
	c := made(t, k, below(0, outer, 2, 2), 5)
	context.Push(k, c, 7)
	context.Push(k, outer, 7)
	was := seen(k)
	for _, q := range []struct {
		outward, i int
		w          api.Word
		want       api.Errno
	}{
		{-1, 0, 3, api.ErrArg}, {257, 0, 3, api.ErrArg}, {-1, -1, 0, api.ErrArg}, {math.MaxInt, 9, 0, api.ErrArg}, {math.MinInt, 0, 3, api.ErrArg},
		{2, 0, 3, api.ErrContext}, {2, 9, 0, api.ErrContext}, {256, -1, 0, api.ErrContext},
		{0, 2, 3, api.ErrSlot}, {0, 3, 0, api.ErrSlot}, {0, -1, 0, api.ErrSlot}, {1, 1, 3, api.ErrSlot}, {1, 2, 0, api.ErrSlot},
		{0, -9, 3, api.ErrSlot}, {0, math.MaxInt, 0, api.ErrSlot}, {0, math.MinInt, 0, api.ErrSlot}, {1, math.MaxInt - 8, 3, api.ErrSlot},
		{0, 0, 0, api.ErrWord}, {1, 0, 0, api.ErrWord}, {0, 1, -4, api.ErrWord}, {0, 1, 262148, api.ErrWord},
	} {
		if q.want != api.ErrWord {
			wantTemp(t, k, c, q.outward, q.i, 0, q.want)
		}
		if e := context.SetTemp(k, c, q.outward, q.i, q.w); e != q.want {
			t.Fatalf("SetTemp(%v) = %d", q, e)
		}
	}
	if seen(k) != was {
		t.Fatal("what is refused has changed something")
	}
}

// P16.6: as far outward as one may go, along a line and round a ring.
func TestFarOutward(t *testing.T) {
	k := booted(t, 6000, 400)
	list := nested(t, k, 258, api.ContextOuter)
	last := list[257]
	wantTemp(t, k, last, 255, 0, 2*2+1, api.OK)
	wantTemp(t, k, last, 256, 0, 2*1+1, api.OK)
	wantTemp(t, k, last, 257, 0, 0, api.ErrArg)
	wantTemp(t, k, list[255], 256, 0, 0, api.ErrContext)
	wantTemp(t, k, list[256], 256, 0, 1, api.OK)
	put(t, k, list[0], api.ContextOuter, named(list[2]))
	wantTemp(t, k, list[1], 1, 0, 1, api.OK)
	wantTemp(t, k, list[1], 2, 0, 5, api.OK)
	wantTemp(t, k, list[1], 255, 0, 3, api.OK) // 85 times round a ring of three
	wantTemp(t, k, list[1], 256, 0, 1, api.OK)
	put(t, k, list[0], api.ContextOuter, named(list[0]))
	wantErr(t, "SetTemp", context.SetTemp(k, list[0], 256, 1, 99), api.OK)
	wantTemp(t, k, list[0], 0, 1, 99, api.OK)
}

// P16.6, P16.7: what is gone to and is no context; what is not gone to makes no difference.
func TestBrokenWays(t *testing.T) {
	for _, bad := range []api.Word{3, 2, 8, 12, 60, 72, 4 * 99, 262144, -1} {
		k := booted(t, 2000, 100)
		list := nested(t, k, 4, api.ContextOuter)
		for i := 1; i < 4; i++ {
			put(t, k, list[i], api.ContextSender, named(list[i-1]))
		}
		put(t, k, list[1], api.ContextOuter, bad)
		wantTemp(t, k, list[3], 2, 0, 3, api.OK)
		wantTemp(t, k, list[3], 3, 0, 0, api.ErrContext)
		wantTemp(t, k, list[3], 4, 0, 0, api.ErrContext)
		wantHome(t, k, list[3], 0, api.ErrContext)
		wantHome(t, k, list[1], 0, api.ErrContext)
		wantHome(t, k, list[0], list[0], api.OK)
		wantChain(t, k, list[3], api.OK, list[3], list[2], list[1], list[0])
		put(t, k, list[1], api.ContextSender, bad)
		put(t, k, list[1], api.ContextOuter, none)
		wantHome(t, k, list[3], list[1], api.OK)
		wantChain(t, k, list[3], api.ErrContext)
		wantChain(t, k, list[1], api.ErrContext)
		wantChain(t, k, list[0], api.OK, list[0])
	}
}

// P16.7: 256 are not too many, 257 are.
func TestLongWays(t *testing.T) {
	k := booted(t, 6000, 400)
	list := nested(t, k, 257, api.ContextOuter)
	wantHome(t, k, list[255], list[0], api.OK)
	wantHome(t, k, list[256], 0, api.ErrContext)
	put(t, k, list[0], api.ContextOuter, 3)
	wantHome(t, k, list[255], 0, api.ErrContext)

	k = booted(t, 6000, 400)
	list = nested(t, k, 257, api.ContextSender)
	want := slices.Clone(list[:256])
	slices.Reverse(want)
	wantChain(t, k, list[255], api.OK, want...)
	wantChain(t, k, list[256], api.ErrContext)
	put(t, k, list[0], api.ContextSender, 3)
	wantChain(t, k, list[255], api.ErrContext)
}

// P16.7: rings have no home and no chain.
func TestRings(t *testing.T) {
	for n := 1; n < 5; n++ {
		k := booted(t, 2000, 100)
		list := nested(t, k, n, api.ContextOuter)
		for i, c := range list {
			put(t, k, c, api.ContextSender, named(list[(i+1)%n]))
		}
		put(t, k, list[0], api.ContextOuter, named(list[n-1]))
		in := made(t, k, below(list[0], list[0], 0, 0))
		for _, c := range append(list, in) {
			wantHome(t, k, c, 0, api.ErrContext)
			wantChain(t, k, c, api.ErrContext)
		}
	}
}

// P16.7: home and chain go by their own slots.
func TestHomeAndChain(t *testing.T) {
	k := booted(t, 2000, 100)
	a := made(t, k, plain(0, 0))
	b := made(t, k, below(a, 0, 0, 0))
	c := made(t, k, below(b, a, 0, 0))
	d := made(t, k, below(c, c, 0, 0))
	e := made(t, k, below(0, d, 0, 0))
	for x, home := range map[int]int{a: a, b: b, c: a, d: a, e: a} {
		wantHome(t, k, x, home, api.OK)
	}
	wantChain(t, k, a, api.OK, a)
	wantChain(t, k, b, api.OK, b, a)
	wantChain(t, k, d, api.OK, d, c, b, a)
	wantChain(t, k, e, api.OK, e)
}

// P16.8: a context that is cut has no sender; all else of it stays, and of all others.
func TestCut(t *testing.T) {
	k := booted(t, 2000, 100)
	a := made(t, k, plain(1, 1))
	b := made(t, k, below(a, a, 1, 1), 3)
	c := made(t, k, below(b, b, 1, 1), 5)
	context.Push(k, b, 7)
	was := [][]api.Word{slots(k, a), slots(k, b), slots(k, c)}
	was[1][api.ContextSender] = none
	for range 2 {
		wantErr(t, "Cut", context.Cut(k, b), api.OK)
		for i, x := range []int{a, b, c} {
			if !slices.Equal(slots(k, x), was[i]) {
				t.Fatalf("%d has %d, want %d", x, slots(k, x), was[i])
			}
		}
	}
	wantChain(t, k, c, api.OK, c, b)
	wantHome(t, k, c, a, api.OK)
	put(t, k, c, api.ContextSender, 3)
	wantErr(t, "Cut", context.Cut(k, c), api.OK)
	wantChain(t, k, c, api.OK, c)
	if x, _ := context.Info(k, c); x.Depth != 3 {
		t.Fatalf("the depth is %d", x.Depth)
	}
}
