package dict_test

import (
	"math"
	"math/rand"
	"testing"

	"kiln/api"
	"kiln/class"
	"kiln/dict"
	"kiln/space"
	"kiln/symbol"
)

// askAll asks a book for everything: that each call ends is all that is said.
func askAll(b *dict.Book, oops ...int) {
	for _, n := range oops {
		b.Selectors(n)
		for _, s := range []string{"", "foo", "bar", "Object", "zoo"} {
			b.At(n, s)
			b.Put(n, s, n)
			b.Put(n, s, 18)
			b.Remove(n, s)
			b.Put(n, s, 1)
		}
		for _, x := range []int{n, 0, 14, 15, 16} {
			b.Lookup(n, x)
			b.Lookup(n, x)
		}
	}
	b.Hits()
	b.Flush()
}

func numbersTo(n int) []int {
	list := []int{math.MinInt, math.MaxInt, math.MaxInt/2 + 1, -1}
	for i := range n {
		list = append(list, i)
	}
	return list
}

// world is a kernel with some classes and methods.
func world(t *testing.T) (*class.Kernel, *dict.Book) {
	t.Helper()
	k, b := booted(t, 1200, 120)
	p := defined(t, k, "P", "Object", "x", "y")
	q := defined(t, k, "Q", "P", "z")
	for _, s := range []string{"foo", "bar", "zoo"} {
		added(t, k, s)
		b.Put(p, s, 18)
		b.Put(4, s, 19)
	}
	b.Put(q, "foo", 20)
	return k, b
}

// P14.7: over kernels that no call made, and over spaces and symbols that no kernel left.
func TestOverOthers(t *testing.T) {
	empty, _ := space.New(100, 10)
	crowned, _ := space.New(400, 40)
	crowned.Alloc(4, 8, 0)
	crowned.Crown(1)
	for i := range 8 {
		crowned.SetRoot(i, 4)
	}
	none, _ := symbol.New(0)
	some, _ := symbol.New(30)
	known, _ := world(t)
	for _, s := range []*space.Space{empty, crowned, new(space.Space), known.Space()} {
		for _, x := range []*symbol.Table{none, some, new(symbol.Table)} {
			k, _ := class.Over(s, x)
			askAll(newBook(t, k), numbersTo(50)...)
		}
	}
	askAll(newBook(t, new(class.Kernel)), numbersTo(30)...)
	k, b := world(t)
	k.Symbols().Back(0)
	askAll(b, numbersTo(50)...)
}

// P14.7: superclasses that lead round, or nowhere.
func TestRoundWays(t *testing.T) {
	k, b := world(t)
	h := k.Space().Heap()
	p, _ := k.Find("P")
	q, _ := k.Find("Q")
	none := added(t, k, "none")
	for _, up := range []api.Word{api.Word(4 * p), api.Word(4 * q), 16, 76, 72, 4, 400, 2, 3} {
		h.Put(p, api.ClassSuper, up)
		h.Put(4, api.ClassSuper, up)
		b.Flush()
		wantLookup(t, b, q, none, 0, 0)
		wantLookup(t, b, p, none, 0, 0)
		wantLookup(t, b, 4, none, 0, 0)
		askAll(b, numbersTo(50)...)
	}
}

// P14.7: lists of unlike lengths, of bytes, of what is no symbol and no method, and the greatest.
func TestSpoiltLists(t *testing.T) {
	for i := range 40 {
		for j := range 40 {
			k, b := world(t)
			h := k.Space().Heap()
			p, _ := k.Find("P")
			h.Put(p, api.ClassSelectors, api.Word(4*i))
			h.Put(p, api.ClassMethods, api.Word(4*j))
			askAll(b, p, 4, 18)
		}
	}
	for _, n := range []int{0, 1, 5, 127, 128, 129, api.MaxSlots} {
		for _, format := range []int{0, 1} {
			k, b := booted(t, 1<<18, 1000)
			list, _ := k.Space().Alloc(4*api.Array, n, format)
			for i := range n {
				k.Space().Heap().Put(int(list)/4, i, 2)
			}
			k.Space().Heap().Put(4, api.ClassSelectors, list)
			askAll(b, 4, 5)
			k.Space().Heap().Put(4, api.ClassMethods, list)
			askAll(b, 4, 5)
		}
	}
}

// P14.7: kernels that are spoilt at random.
func TestSpoilt(t *testing.T) {
	r := rand.New(rand.NewSource(14))
	for range 300 {
		k, b := world(t)
		h := k.Space().Heap()
		for range 1 + r.Intn(12) {
			oop, i := 1+r.Intn(45), r.Intn(9)
			x := api.Word(r.Intn(200) - 10)
			switch r.Intn(9) {
			case 0:
				h.Free(oop)
			case 1:
				h.SetClass(oop, x)
			case 2:
				h.Exchange(oop, 1+r.Intn(45))
			case 3:
				k.Space().Crown(oop)
			case 4:
				k.Symbols().Back(r.Intn(20))
			case 5:
				k.Space().SetRoot(i, x)
			default:
				h.Put(oop, i, x)
			}
		}
		askAll(b, numbersTo(50)...)
	}
}
