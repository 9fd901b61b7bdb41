package prim_test

import (
	"slices"
	"testing"

	"kiln/api"
)

// P17.3: new objects of classes.
func TestNew(t *testing.T) {
	k := booted(t, 4000, 400)
	pair := defined(t, k, "Pair", "Object", "x", "y")
	more := defined(t, k, "More", "Pair", "z")
	bare := defined(t, k, "Bare", "Object")
	wantObject(t, k, fresh(t, k, api.Class, "new", obj(pair)), pair, 0, null, null)
	wantObject(t, k, fresh(t, k, api.Class, "new", obj(more)), more, 0, null, null, null)
	wantObject(t, k, fresh(t, k, api.Class, "new", obj(bare)), bare, 0)
	wantObject(t, k, fresh(t, k, api.Class, "new", obj(api.Object)), api.Object, 0)
	var own []string
	for i := range 29 {
		own = append(own, "a"+string(rune('a'+i%26))+string(rune('a'+i/26)))
	}
	wide := defined(t, k, "Wide", "More", own...)
	wantObject(t, k, fresh(t, k, api.Class, "new", obj(wide)), wide, 0, slices.Repeat([]api.Word{null}, 32)...)
	was := seen(k)
	for c := api.Object + 1; c <= api.Message; c++ {
		want(t, k, api.Class, "new", 0, api.ErrPrim, obj(c))
	}
	for _, c := range []int{api.Object, api.Integer, api.Symbol, api.Class, api.Message, pair, more, bare} {
		for _, n := range []int{-1, 0, 1, 2, 8193} {
			want(t, k, api.Class, "new:", 0, api.ErrPrim, obj(c), num(n))
		}
	}
	if seen(k) != was {
		t.Fatal("something has changed")
	}
}

// P17.3: new strings and arrays of a size.
func TestNewSized(t *testing.T) {
	k := booted(t, 30000, 400)
	for _, n := range []int{0, 1, 2, 3, 4, 5, 100, 8191, 8192} {
		wantObject(t, k, fresh(t, k, api.Class, "new:", obj(api.String), num(n)), api.String, 1, make([]api.Word, n)...)
		if n == 0 {
			continue
		}
		wantObject(t, k, fresh(t, k, api.Class, "new:", obj(api.Array), num(n)), api.Array, 0, slices.Repeat([]api.Word{null}, n)...)
	}
	was := seen(k)
	for _, c := range []int{api.String, api.Array} {
		for _, x := range []api.Word{num(-1), num(least), num(8193), num(most), null, 2, yes, empty} {
			want(t, k, api.Class, "new:", 0, api.ErrPrim, obj(c), x)
		}
	}
	want(t, k, api.Class, "new:", empty, api.OK, obj(api.Array), num(0))
	if seen(k) != was {
		t.Fatal("something has changed")
	}
}

// P17.3: what classes, blocks and messages tell of themselves.
func TestOwnSlots(t *testing.T) {
	k := booted(t, 4000, 400)
	pair := defined(t, k, "Pair", "Object", "x", "y")
	more := defined(t, k, "More", "Pair", "z")
	for c := api.Object; c <= api.Message; c++ {
		want(t, k, api.Class, "name", api.Word(4*(c-api.Object)+2), api.OK, obj(c))
		if c > api.Object {
			want(t, k, api.Class, "superclass", obj(api.Object), api.OK, obj(c))
		}
	}
	want(t, k, api.Class, "superclass", null, api.OK, obj(api.Object))
	want(t, k, api.Class, "superclass", obj(api.Object), api.OK, obj(pair))
	want(t, k, api.Class, "superclass", obj(pair), api.OK, obj(more))
	want(t, k, api.Class, "name", symbol(t, k, "More"), api.OK, obj(more))
	for n := range 9 {
		want(t, k, api.Block, "numArgs", num(n), api.OK, laid(t, k, api.Block, 0, null, num(1), num(2), num(3), num(n), num(12)))
	}
	m := laid(t, k, api.Message, 0, symbol(t, k, "foo"), array(t, k, num(3)))
	slot, _ := k.Space().Heap().At(int(m/4), 1)
	want(t, k, api.Message, "selector", symbol(t, k, "foo"), api.OK, m)
	want(t, k, api.Message, "arguments", slot, api.OK, m)
}
