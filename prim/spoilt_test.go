package prim_test

import (
	"math"
	"math/rand"
	"slices"
	"strings"
	"testing"

	"kiln/api"
	"kiln/class"
	"kiln/prim"
	"kiln/space"
	symbols "kiln/symbol"
)

// askAll asks for every line of the table: that each call ends, and answers a
// word or an error, is all that is said.
func askAll(t *testing.T, r *rand.Rand, k *class.Kernel, words []api.Word) {
	t.Helper()
	pick := func() api.Word { return words[r.Intn(len(words))] }
	for of, list := range table() {
		for _, s := range strings.Fields(list) {
			for range 4 {
				receiver := pick()
				args := make([]api.Word, takes(s))
				for i := range args {
					args[i] = pick()
				}
				w, e := prim.Do(k, of, s, receiver, args)
				if (w == 0) != (e != api.OK) {
					t.Fatalf("Do(%d, %q, %d, %d) = %d, %d", of, s, receiver, args, w, e)
				}
			}
		}
	}
}

// wordsTo is the words of so many objects, and others, and what is no word.
func wordsTo(n int) []api.Word {
	list := []api.Word{0, -2, math.MaxInt, math.MinInt, num(0), num(1), num(2), num(-1), num(least), num(most), num(8192), num(97), 2, 58, 16382, 262144}
	for i := range n {
		list = append(list, obj(i))
	}
	return list
}

// lived is a kernel with some objects of all kinds; the number is behind them all.
func lived(t *testing.T) (*class.Kernel, int) {
	t.Helper()
	k := booted(t, 700, 80)
	pair := defined(t, k, "Pair", "Object", "x", "y")
	more := defined(t, k, "More", "Pair", "z")
	s, a := str(t, k, "abc"), array(t, k, num(1), null)
	laid(t, k, pair, 0, s, a)
	laid(t, k, more, 0, s, a, null)
	laid(t, k, api.Object, 0)
	str(t, k, "")
	laid(t, k, api.Block, 0, null, null, null, num(0), num(2), num(2))
	laid(t, k, api.Message, 0, 2, empty)
	return k, slices.Max(k.Space().Heap().All()) + 2
}

// P17.5: at all arguments each call ends.
func TestAllArguments(t *testing.T) {
	r := rand.New(rand.NewSource(17))
	for range 50 {
		k, last := lived(t)
		askAll(t, r, k, wordsTo(last))
	}
	for _, of := range numbersTo(30) {
		for _, s := range []string{"", "+", ":", "::::", "value", "\x00", strings.Repeat(":", 1000)} {
			k, _ := lived(t)
			prim.Has(of, s)
			prim.Selectors(of)
			prim.Do(k, of, s, api.Word(of), nil)
			prim.Do(k, of, s, num(1), []api.Word{api.Word(of)})
		}
	}
}

// P17.5: over spaces and symbols that no kernel left.
func TestOverOthers(t *testing.T) {
	r := rand.New(rand.NewSource(18))
	bare, _ := space.New(100, 10)
	crowned, _ := space.New(400, 40)
	crowned.Alloc(48, 12, 0)
	crowned.Crown(1)
	for i := range 12 {
		crowned.SetRoot(i, 4)
	}
	none, _ := symbols.New(0)
	for range 20 {
		known, last := lived(t)
		for _, s := range []*space.Space{bare, crowned, new(space.Space), known.Space()} {
			for _, x := range []*symbols.Table{none, new(symbols.Table)} {
				k, _ := class.Over(s, x)
				askAll(t, r, k, wordsTo(last))
			}
		}
	}
}

// P17.5: kernels that are spoilt at random.
func TestSpoilt(t *testing.T) {
	r := rand.New(rand.NewSource(19))
	for range 400 {
		k, last := lived(t)
		h := k.Space().Heap()
		for range 1 + r.Intn(12) {
			oop, i := 1+r.Intn(last), r.Intn(8)
			x := api.Word(r.Intn(4*last+20) - 10)
			switch r.Intn(9) {
			case 0:
				h.Free(oop)
			case 1:
				h.SetClass(oop, []api.Word{obj(4 + r.Intn(14)), x}[r.Intn(2)])
			case 2:
				h.Exchange(oop, 1+r.Intn(last))
			case 3:
				k.Space().Crown(oop)
			case 4:
				k.Space().Drop(r.Intn(3))
			case 5:
				h.Mark(r.Intn(9))
			case 6:
				k.Symbols().Back(r.Intn(20))
			default:
				h.Put(oop, i, x)
			}
		}
		askAll(t, r, k, wordsTo(last))
	}
}

// A way up that leads round ends.
func TestRings(t *testing.T) {
	k := booted(t, 2000, 200)
	a, b := defined(t, k, "A", "Object", "x"), defined(t, k, "B", "A", "y")
	w := laid(t, k, b, 0, num(1), num(2))
	k.Space().Heap().Put(a, api.ClassSuper, obj(b))
	for _, c := range []int{a, b} {
		k.Space().Heap().Put(c, api.ClassSuper, obj(a+b-c))
		want(t, k, api.Object, "class", 0, api.ErrPrim, w)
		want(t, k, api.Array, "size", 0, api.ErrPrim, w)
	}
	// One that is as long as there are classes does not.
	k = booted(t, 20000, 2000)
	name, last := "Object", 0
	for i := range 242 {
		next := "A" + strings.Repeat("x", i%20) + strings.Repeat("y", i/20)
		last = defined(t, k, next, name)
		name = next
	}
	if k.Count() != 256 {
		t.Fatalf("there are %d classes", k.Count())
	}
	w = laid(t, k, last, 0)
	want(t, k, api.Object, "class", obj(last), api.OK, w)
	want(t, k, api.Object, "isKindOf:", yes, api.OK, w, obj(api.Object))
	want(t, k, api.Object, "isKindOf:", no, api.OK, w, obj(api.Integer))
}
