package method_test

import (
	"math"
	"math/rand"
	"testing"

	"kiln/api"
	"kiln/class"
	"kiln/method"
	"kiln/space"
	"kiln/symbol"
)

func numbersTo(n int) []int {
	list := []int{math.MinInt, math.MaxInt, math.MaxInt/2 + 1, 65536, 65537, -1}
	for i := range n {
		list = append(list, i)
	}
	return list
}

// askAll asks for everything: that each call ends is all that is said.
func askAll(k *class.Kernel, oops ...int) {
	for _, n := range oops {
		for _, source := range []string{"", "foo", "bar: a ^x + #(a 'b')", "bar: a ^G at: P put: #(#a 'b' #())", "("} {
			method.Compile(k, n, source)
		}
		for _, fields := range [][]string{nil, {"x", "y"}, {"", "x", "x"}} {
			method.Check(k, n, fields)
			method.Again(k, n, fields, n)
			method.Again(k, n, fields, 1)
		}
		method.Info(k, n)
		method.Stale(k, n)
	}
	for _, source := range []string{"", "^1", "^G foo: 'a'", "|", "^#(#new 'b' #(1))"} {
		method.Doit(k, source)
	}
}

// lived is a world with some methods in it, all of them kept; the last oop is behind them all.
func lived(t *testing.T) (*class.Kernel, int) {
	t.Helper()
	k, p := worldOf(t, 700, 100)
	for _, source := range []string{sum, "foo: a ^#(a 'b' #(1))", "bar | t | ^[t := x]"} {
		if m, f := method.Compile(k, p, source); f.Code == api.OK {
			kept(k, m)
		}
	}
	kept(k, doit(t, k, "^G foo: 'a'"))
	return k, len(k.Space().Heap().All()) + 2
}

// P15.1: at all arguments each call ends.
func TestAllArguments(t *testing.T) {
	k, last := lived(t)
	askAll(k, numbersTo(last)...)
}

// P15.1: over spaces and symbols that no kernel left.
func TestOverOthers(t *testing.T) {
	empty, _ := space.New(100, 10)
	crowned, _ := space.New(400, 40)
	crowned.Alloc(4, 8, 0)
	crowned.Crown(1)
	for i := range 8 {
		crowned.SetRoot(i, 4)
	}
	none, _ := symbol.New(0)
	some, _ := symbol.New(30)
	known, last := lived(t)
	for _, s := range []*space.Space{empty, crowned, new(space.Space), known.Space()} {
		for _, x := range []*symbol.Table{none, some, new(symbol.Table)} {
			k, _ := class.Over(s, x)
			askAll(k, numbersTo(last)...)
		}
	}
	k, last := lived(t)
	k.Symbols().Back(0)
	askAll(k, numbersTo(last)...)
}

// P15.1: kernels that are spoilt at random.
func TestSpoilt(t *testing.T) {
	r := rand.New(rand.NewSource(15))
	for range 300 {
		k, last := lived(t)
		h := k.Space().Heap()
		for range 1 + r.Intn(12) {
			oop, i := 1+r.Intn(last), r.Intn(10)
			x := api.Word(r.Intn(4*last) - 10)
			switch r.Intn(9) {
			case 0:
				h.Free(oop)
			case 1:
				h.SetClass(oop, x)
			case 2:
				h.Exchange(oop, 1+r.Intn(last))
			case 3:
				k.Space().Crown(oop)
			case 4:
				k.Symbols().Back(r.Intn(25))
			case 5:
				k.Space().SetRoot(i, x)
			default:
				h.Put(oop, i, x)
			}
		}
		askAll(k, numbersTo(last)...)
	}
}
