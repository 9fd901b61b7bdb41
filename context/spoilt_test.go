package context_test

import (
	"math"
	"math/rand"
	"testing"

	"kiln/api"
	"kiln/class"
	"kiln/context"
	"kiln/space"
	"kiln/symbol"
)

// askAll asks for everything: that each call ends is all that is said.
func askAll(k *class.Kernel, oops ...int) {
	for _, n := range oops {
		context.Info(k, n)
		context.Push(k, n, api.Word(n))
		context.Push(k, n, 3)
		context.Home(k, n)
		context.Chain(k, n)
		context.Block(k, n)
		for _, i := range []int{0, 1, 2, 9, 256, 257, -1, n, math.MaxInt, math.MinInt} {
			context.Peek(k, n, i)
			context.Temp(k, n, i, 0)
			context.Temp(k, n, 0, i)
			context.SetTemp(k, n, 0, i, api.Word(n))
			context.SetTemp(k, n, 1, i, 3)
			context.NewBlock(k, n, i, i, i)
			context.Go(k, n, i)
			x := below(n, n, i, i)
			x.Pc = i
			context.New(k, x, []api.Word{api.Word(n)})
		}
		context.NewBlock(k, n, 1, 1, 1)
		context.New(k, below(n, 0, 2, 2), []api.Word{3})
		context.New(k, below(0, n, 2, 2), nil)
		context.Pop(k, n)
		context.Pop(k, n)
		context.Cut(k, n)
	}
}

func numbersTo(n int) []int {
	list := []int{math.MinInt, math.MaxInt, math.MaxInt/2 + 1, 65536, 65537, -1}
	for i := range n {
		list = append(list, i)
	}
	return list
}

// lived is a kernel with some contexts and blocks, all of them kept; the number is behind them all.
func lived(t *testing.T) (*class.Kernel, int) {
	t.Helper()
	k := booted(t, 600, 60)
	a := made(t, k, plain(2, 3), 5)
	b := made(t, k, below(a, a, 2, 3), 7, 9)
	c := made(t, k, below(b, b, 0, 1))
	made(t, k, below(c, 0, 1, 0))
	madeBlock(t, k, a, 1, 1, 1)
	madeBlock(t, k, c, 4096, 0, 32)
	context.Push(k, a, named(b))
	context.Push(k, b, named(c))
	return k, 28
}

// P16.1: at all arguments each call ends.
func TestAllArguments(t *testing.T) {
	k, last := lived(t)
	askAll(k, numbersTo(last)...)
}

// P16.1: over spaces and symbols that no kernel left.
func TestOverOthers(t *testing.T) {
	empty, _ := space.New(100, 10)
	crowned, _ := space.New(400, 40)
	crowned.Alloc(60, 12, 0)
	crowned.Crown(1)
	for i := range 12 {
		crowned.SetRoot(i, 3)
	}
	none, _ := symbol.New(0)
	known, last := lived(t)
	for _, s := range []*space.Space{empty, crowned, new(space.Space), known.Space()} {
		for _, x := range []*symbol.Table{none, new(symbol.Table)} {
			k, _ := class.Over(s, x)
			askAll(k, numbersTo(last)...)
		}
	}
}

// P16.1: kernels that are spoilt at random.
func TestSpoilt(t *testing.T) {
	r := rand.New(rand.NewSource(16))
	for range 400 {
		k, last := lived(t)
		h := k.Space().Heap()
		for range 1 + r.Intn(12) {
			oop, i := 1+r.Intn(last), r.Intn(14)
			if r.Intn(2) == 0 {
				oop = 21 + r.Intn(7)
			}
			x := api.Word(r.Intn(4*last+20) - 10)
			switch r.Intn(9) {
			case 0:
				h.Free(oop)
			case 1:
				h.SetClass(oop, []api.Word{60, 56, x}[r.Intn(3)])
			case 2:
				h.Exchange(oop, 1+r.Intn(last))
			case 3:
				k.Space().Crown(oop)
			case 4:
				k.Space().Drop(r.Intn(3))
			case 5:
				h.Mark(r.Intn(9))
			default:
				h.Put(oop, i, x)
			}
		}
		askAll(k, numbersTo(last)...)
	}
}
