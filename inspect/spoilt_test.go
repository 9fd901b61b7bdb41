package inspect_test

import (
	"math"
	"math/rand"
	"testing"

	"kiln/api"
	"kiln/class"
	"kiln/inspect"
	"kiln/space"
	symbols "kiln/symbol"
)

// askAll asks for the text and for all words: that each call ends, and tells
// nothing beside an error, is all that is said.
func askAll(t *testing.T, k *class.Kernel, last int) {
	t.Helper()
	if s, e := inspect.Text(k); e != api.OK {
		t.Fatalf("Text = %q, %d", s, e)
	}
	words := []api.Word{0, -2, -4, num(0), num(least), num(most), 2, 58, 16382, 16386, 262144, 262148, math.MaxInt, math.MinInt}
	for oop := range last + 2 {
		words = append(words, obj(oop))
	}
	for _, x := range words {
		if s, e := inspect.Value(k, x); (s == "") != (e != api.OK) && x%4 != 0 || e != api.OK && s != "" {
			t.Fatalf("Value(%d) = %q, %d", x, s, e)
		}
	}
}

// lived is a world with objects of all kinds, all of which globals lead to.
func lived(t *testing.T) (*world, int) {
	t.Helper()
	w := booted(t, 1500, 120)
	p := w.class("P", "Object", "x y")
	q := w.class("Q", "P", "z")
	w.global("G", null)
	w.global("H", num(3))
	w.run("G := [:a | 'text']")
	g, _ := w.k.Value(0)
	s := w.str("abc")
	o := w.laid(q, 0, s, empty, null)
	m := w.laid(api.Message, 0, 2, w.array(g, o))
	w.hold(1, w.array(g, w.laid(p, 0, num(1), s), o, m, w.laid(api.Object, 0), w.laid(api.Context, 0, s), obj(api.Root)))
	w.k.Space().Drop(len(w.k.Space().Kept()))
	all := w.k.Space().Heap().All()
	return w, all[len(all)-1]
}

// P22.4: kernels that are spoilt at random.
func TestSpoilt(t *testing.T) {
	r := rand.New(rand.NewSource(27))
	for range 2000 {
		w, last := lived(t)
		h := w.k.Space().Heap()
		for range 1 + r.Intn(12) {
			oop, i := 1+r.Intn(last), r.Intn(8)
			x := api.Word(r.Intn(4*last+20) - 10)
			switch r.Intn(9) {
			case 0:
				h.Free(oop)
			case 1:
				h.SetClass(oop, []api.Word{obj(4 + r.Intn(14)), x}[r.Intn(2)])
			case 2:
				h.Exchange(oop, 1+r.Intn(last))
			case 3:
				w.k.Space().Crown(oop)
			case 4:
				w.k.Symbols().Back(r.Intn(20))
			case 5:
				w.k.SetValue(0, obj(oop))
			default:
				h.Put(oop, i, x)
			}
			askAll(t, w.k, last)
		}
	}
}

// P22.4: over spaces and symbols that no kernel left.
func TestOverOthers(t *testing.T) {
	bare, _ := space.New(100, 10)
	crowned, _ := space.New(400, 40)
	crowned.Alloc(48, 12, 0)
	crowned.Crown(1)
	for i := range 12 {
		crowned.SetRoot(i, 4)
	}
	bytes, _ := space.New(400, 40)
	bytes.Alloc(44, 8, 0)
	bytes.Crown(1)
	x, _ := bytes.Alloc(40, 8, 1)
	bytes.SetRoot(api.RootGlobals, x)
	bytes.SetRoot(api.RootClasses, x)
	none, _ := symbols.New(0)
	known, _ := lived(t)
	for _, s := range []*space.Space{bare, crowned, bytes, known.k.Space()} {
		for _, table := range []*symbols.Table{none, new(symbols.Table), known.k.Symbols()} {
			k, _ := class.Over(s, table)
			askAll(t, k, 60)
		}
	}
	k, _ := class.Over(new(space.Space), none)
	inspect.Text(k)
	for _, x := range []api.Word{0, num(1), 2, null, empty, obj(api.Array)} {
		inspect.Value(k, x)
	}
}

// P22.4: a global that holds an object which is not there; one that has no class.
func TestNotThere(t *testing.T) {
	w := booted(t, 1000, 100)
	w.global("G", obj(90))
	w.global("H", w.array(obj(90), obj(91)))
	w.tells("G = @1", "H = @2", "@1 ", "@2 Array (@1 @3)", "@3 ")
	x, _ := w.k.Space().Alloc(num(3), 1, 0)
	w.hold(0, x)
	w.hold(1, null)
	w.tells("G = @1", "H = nil", "@1  1=nil")
}

// P22.4: classes whose superclasses lead round.
func TestRings(t *testing.T) {
	w := booted(t, 1000, 100)
	a, b := w.class("A", "Object", "x"), w.class("B", "A", "y")
	w.put(obj(a), api.ClassSuper, obj(b))
	o := w.laid(b, 0, obj(a), num(2))
	w.global("G", o)
	w.text()
	w.value(o, "a B")
	w.value(obj(a), "A")
	w.put(obj(a), api.ClassSuper, obj(a))
	w.text()
}
