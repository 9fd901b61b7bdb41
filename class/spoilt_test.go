package class_test

import (
	"math"
	"math/rand"
	"testing"

	"kiln/api"
	"kiln/class"
	"kiln/space"
	"kiln/symbol"
)

// askAll asks a kernel for everything: that each call ends is all that is said.
func askAll(k *class.Kernel, oops ...int) {
	k.Count()
	for _, name := range []string{"", "Object", "P", "Q", "x"} {
		k.Find(name)
		k.Global(name)
		k.Global("G" + name)
		k.Define("N"+name, name, []string{"x", "new"})
		k.Define("M"+name, "Object", nil)
	}
	for _, n := range oops {
		k.Numbered(n)
		k.Of(api.Word(n))
		k.Of(api.Word(4 * n))
		k.Info(n)
		k.Number(n)
		k.Super(n)
		k.Fields(n)
		k.Layout(n)
		k.Under(n)
		k.Value(n)
		k.SetValue(n, api.Word(n))
	}
	k.Globals()
}

func numbersTo(n int) []int {
	list := []int{math.MinInt, math.MaxInt, math.MaxInt/2 + 1, -1}
	for i := range n {
		list = append(list, i)
	}
	return list
}

// world is a kernel with some classes and globals.
func world(t *testing.T) *class.Kernel {
	t.Helper()
	k := booted(t, 1200, 120)
	defined(t, k, "P", "Object", "x", "y")
	defined(t, k, "Q", "P", "z")
	defined(t, k, "R", "Q")
	k.Global("G")
	k.Global("H")
	return k
}

// P13.2, P13.7: over spaces and symbols that no kernel left each call ends.
func TestOverOthers(t *testing.T) {
	empty, _ := space.New(100, 10)
	crowned, _ := space.New(400, 40)
	crowned.Alloc(4, 8, 0)
	crowned.Crown(1)
	for i := range 8 {
		crowned.SetRoot(i, 4)
	}
	bytes, _ := space.New(400, 40)
	bytes.Alloc(4, 200, 1)
	bytes.Crown(1)
	none, _ := symbol.New(0)
	some, _ := symbol.New(30)
	full, _ := symbol.Load([]string{"Object", "P", "x"}, 3)
	for _, s := range []*space.Space{empty, crowned, bytes, new(space.Space), world(t).Space()} {
		for _, x := range []*symbol.Table{none, some, full, new(symbol.Table)} {
			if k, e := class.Over(s, x); e == api.OK {
				askAll(k, numbersTo(60)...)
			}
		}
	}
	k := world(t)
	k.Symbols().Back(0)
	askAll(k, numbersTo(60)...)
}

// P13.2, P13.7: superclasses that lead round, or up and down.
func TestRoundWays(t *testing.T) {
	k := world(t)
	h := k.Space().Heap()
	p, _ := k.Find("P")
	q, _ := k.Find("Q")
	for _, up := range []int{p, q, 4, 19, 18, 1, 0} {
		h.Put(p, api.ClassSuper, api.Word(4*up))
		h.Put(4, api.ClassSuper, api.Word(4*up))
		askAll(k, numbersTo(60)...)
	}
	for n := range 20 {
		h.Put(p, api.ClassNumber, api.Word(2*n-5))
		h.Put(q, api.ClassNumber, api.Word(2*n-5))
		askAll(k, numbersTo(60)...)
	}
}

// P13.2, P13.7: kernels that are spoilt at random.
func TestSpoilt(t *testing.T) {
	r := rand.New(rand.NewSource(7))
	for range 400 {
		k := world(t)
		h := k.Space().Heap()
		for range 1 + r.Intn(12) {
			oop, i := 1+r.Intn(40), r.Intn(9)
			x := api.Word(r.Intn(200) - 10)
			switch r.Intn(10) {
			case 0:
				h.Free(oop)
			case 1:
				h.SetClass(oop, x)
			case 2:
				h.Exchange(oop, 1+r.Intn(40))
			case 3:
				k.Space().Crown(oop)
			case 4:
				k.Symbols().Back(r.Intn(20))
			case 5:
				k.Space().SetRoot(i, x)
			case 6:
				w, _ := k.Space().Alloc(4, r.Intn(300), r.Intn(2))
				k.Space().SetRoot(i, w)
			default:
				h.Put(oop, i, x)
			}
		}
		askAll(k, numbersTo(60)...)
	}
}

// P13.2, P13.7: as many classes as an Array has slots, each below the one ahead
// of it, and the greatest lists of names.
func TestGreatLists(t *testing.T) {
	k := booted(t, 1<<20, 65536)
	h := k.Space().Heap()
	s := k.Space()
	list, _ := s.Alloc(4*api.Array, api.MaxSlots, 0)
	s.SetRoot(api.RootClasses, list)
	names, _ := s.Alloc(4*api.Array, 500, 0)
	for i := range 500 {
		h.Put(int(names)/4, i, 2)
	}
	up := api.Word(4)
	for i := range api.MaxSlots {
		c, e := s.Alloc(4*api.Class, 7, 0)
		if e != api.OK {
			t.Fatalf("Alloc = %d", e)
		}
		for slot, w := range []api.Word{2, up, 72, 72, 72, 1, api.Word(2*i + 3)} {
			h.Put(int(c)/4, slot, w)
		}
		if i%200 == 0 {
			h.Put(int(c)/4, api.ClassOwn, names)
		}
		h.Put(int(list)/4, i, c)
		up = c
	}
	s.SetRoot(api.RootGlobals, list)
	askAll(k, numbersTo(3)...)
	askAll(k, int(up)/4)
}
