package prim_test

import (
	"fmt"
	"slices"
	"strconv"
	"testing"

	"kiln/api"
	"kiln/class"
	"kiln/prim"
)

// making is one asking of each primitive that makes an object, and how many words that takes.
func making(t *testing.T, k *class.Kernel, ask func(words, of int, selector string, r api.Word, args ...api.Word)) {
	t.Helper()
	pair := defined(t, k, "Pair", "Object", "x", "y")
	abcde := symbol(t, k, "abcde")
	p, a, s, none := laid(t, k, pair, 0, num(1), null), array(t, k, num(1), null, null), str(t, k, "abcde"), str(t, k, "")
	ask(4, api.Object, "copy", p)
	ask(5, api.Object, "copy", a)
	ask(4, api.Object, "copy", s)
	ask(2, api.Object, "copy", none)
	ask(2, api.Object, "copy", laid(t, k, api.Object, 0))
	ask(3, api.Integer, "printString", num(-123))
	ask(4, api.Integer, "printString", num(-1234))
	ask(4, api.Symbol, "asString", abcde)
	ask(2, api.Symbol, "asString", 16382)
	ask(5, api.String, ",", s, s)
	ask(2, api.String, ",", none, none)
	ask(4, api.Class, "new", obj(pair))
	ask(2, api.Class, "new", obj(api.Object))
	ask(2, api.Class, "new:", obj(api.String), num(0))
	ask(3, api.Class, "new:", obj(api.String), num(4))
	ask(4, api.Class, "new:", obj(api.String), num(5))
	ask(3, api.Class, "new:", obj(api.Array), num(1))
}

// full is a kernel with all that is asked of, and so much room beside it.
func full(t *testing.T, words, oops int) *class.Kernel {
	t.Helper()
	k := booted(t, 4000, 400)
	making(t, k, func(int, int, string, api.Word, ...api.Word) {})
	w, o := k.Space().Room()
	return booted(t, 4000-w+words, 400-o+oops)
}

// P17.4: one object is made, as long as its slots say.
func TestOneIsMade(t *testing.T) {
	k := booted(t, 4000, 400)
	making(t, k, func(words, of int, s string, r api.Word, args ...api.Word) {
		w, o := k.Space().Room()
		had := k.Space().Heap().State().Objects
		made := fresh(t, k, of, s, r, args...)
		if v, p := k.Space().Room(); w-v != words || o-p != 1 {
			t.Fatalf("%q of %d has taken %d, %d, want %d, 1", s, r, w-v, o-p, words)
		}
		now := k.Space().Heap().State().Objects
		for i, o := range had {
			if now[i].Oop != o.Oop || now[i].Class != o.Class || !slices.Equal(now[i].Slots, o.Slots) {
				t.Fatalf("%q of %d has changed %d", s, r, o.Oop)
			}
		}
		if len(now) != len(had)+1 || obj(now[len(had)].Oop) != made {
			t.Fatalf("%q of %d has made %d", s, r, len(now)-len(had))
		}
	})
}

// P17.3: where there is no room, and where there is just enough.
func TestRoom(t *testing.T) {
	for _, c := range []struct{ words, oops int }{{0, 9}, {1, 9}, {2, 9}, {3, 9}, {4, 9}, {5, 9}, {99, 0}, {5, 1}} {
		k := full(t, c.words, c.oops)
		var asks []func()
		making(t, k, func(words, of int, s string, r api.Word, args ...api.Word) {
			asks = append(asks, func() {
				before := seen(k)
				if words <= c.words && c.oops > 0 {
					made := fresh(t, k, of, s, r, args...)
					k.Space().Drop(1)
					k.Space().Heap().Free(int(made / 4))
				} else {
					want(t, k, of, s, 0, api.ErrFull, r, args...)
					k.Space().Heap().Mark(1)
					want(t, k, of, s, 0, api.ErrFull, r, args...)
					if k.Space().Heap().Marked() != 1 {
						t.Fatalf("the mark is %d", k.Space().Heap().Marked())
					}
					k.Space().Heap().Mark(0)
				}
				if seen(k) != before {
					t.Fatalf("%q of %d has changed something", s, r)
				}
			})
		})
		k.Space().Collect()
		for _, ask := range asks {
			ask()
		}
	}
}

// P17.3: a mark that hits is used up, and nothing is made; one that does not counts.
func TestMarks(t *testing.T) {
	k := booted(t, 4000, 400)
	making(t, k, func(words, of int, s string, r api.Word, args ...api.Word) {
		was := seen(k)
		k.Space().Heap().Mark(1)
		want(t, k, of, s, 0, api.ErrMarked, r, args...)
		if seen(k) != was {
			t.Fatalf("%q of %d has changed something", s, r)
		}
		k.Space().Heap().Mark(3)
		fresh(t, k, of, s, r, args...)
		if n := k.Space().Heap().Marked(); n != 2 {
			t.Fatalf("the mark is %d", n)
		}
		k.Space().Heap().Mark(0)
	})
}

// P17.4: all others make nothing: neither a mark nor a full heap is in their way.
func TestNothingIsMade(t *testing.T) {
	k := booted(t, 4000, 400)
	lines(t, k, func(of int, s string, r api.Word, args []api.Word) {
		if activates(of, s) || makes(of, s) && s != "asSymbol" {
			return
		}
		had := len(k.Space().Heap().All())
		words, oops := k.Space().Heap().Room()
		k.Space().Heap().Mark(1)
		if _, e := prim.Do(k, of, s, r, args); e != api.OK || k.Space().Heap().Marked() != 1 {
			t.Fatalf("%q of %d = %d, the mark is %d", s, r, e, k.Space().Heap().Marked())
		}
		v, p := k.Space().Heap().Room()
		if len(k.Space().Heap().All()) != had || v != words || p != oops {
			t.Fatalf("%q of %d has made something", s, r)
		}
	})
	for _, w := range []api.Word{num(3), 2, null, yes, obj(api.Array), empty} {
		want(t, k, api.Object, "copy", w, api.OK, w)
	}
	want(t, k, api.Class, "new:", empty, api.OK, obj(api.Array), num(0))
	if k.Space().Heap().Marked() != 1 {
		t.Fatalf("the mark is %d", k.Space().Heap().Marked())
	}
}

// P17.3: what is wrong is told ahead of what has no room, and collects nothing.
func TestWrongAheadOfRoom(t *testing.T) {
	k := full(t, 20, 0)
	making(t, k, func(int, int, string, api.Word, ...api.Word) {})
	was := seen(k)
	for _, c := range []struct {
		of       int
		selector string
		r        api.Word
		args     []api.Word
	}{
		{api.Class, "new", obj(api.Integer), nil}, {api.Class, "new:", obj(api.Object), []api.Word{num(1)}},
		{api.Class, "new:", obj(api.String), []api.Word{num(8193)}}, {api.Class, "new:", obj(api.Array), []api.Word{null}},
		{api.Integer, "printString", null, nil}, {api.Symbol, "asString", num(1), nil},
	} {
		want(t, k, c.of, c.selector, 0, api.ErrPrim, c.r, c.args...)
	}
	if seen(k) != was {
		t.Fatal("something has changed")
	}
}

// P17.3: where there is no room it is collected, but not within a bracket.
func TestCollects(t *testing.T) {
	k := booted(t, 160+8, 20+3)
	for i := range 40 {
		w, e := prim.Do(k, api.Integer, "printString", num(i-20), nil)
		if e != api.OK {
			t.Fatalf("printString of %d = %d", i-20, e)
		}
		wantText(t, k, w, strconv.Itoa(i-20))
	}
	k.Space().Begin()
	fresh(t, k, api.Class, "new:", obj(api.Array), num(4))
	k.Space().Drop(1)
	want(t, k, api.Class, "new:", 0, api.ErrFull, obj(api.Array), num(4))
	k.Space().Commit()
	if _, e := prim.Do(k, api.Class, "new:", obj(api.Array), []api.Word{num(4)}); e != api.OK {
		t.Fatalf("new: = %d", e)
	}
}

// P17.4: nothing is kept by Do: receiver and arguments may go with the
// allocation, and what is made is made of what they were.
func TestTakesAway(t *testing.T) {
	k := booted(t, 160+8, 20+2)
	s := str(t, k, "abcd")
	u := str(t, k, "efgh")
	k.Space().Drop(2)
	w, e := prim.Do(k, api.String, ",", s, []api.Word{u})
	if w != obj(21) || e != api.OK {
		t.Fatalf("the comma = %d, %d", w, e)
	}
	wantText(t, k, w, "abcdefgh")
	k = booted(t, 160+8, 20+2)
	b := array(t, k, num(5))
	a := array(t, k, num(7), b, null)
	k.Space().Drop(2)
	w, e = prim.Do(k, api.Object, "copy", a, nil)
	if w != obj(21) || e != api.OK {
		t.Fatalf("copy = %d, %d", w, e)
	}
	wantObject(t, k, w, api.Array, 0, num(7), obj(21), null)
}

// P17.4: nothing is put on the space's stack, also where it is full.
func TestStackOfTheSpace(t *testing.T) {
	k := booted(t, 4000, 400)
	making(t, k, func(words, of int, s string, r api.Word, args ...api.Word) {
		kept := len(k.Space().Kept())
		k.Space().Keep(slices.Repeat([]api.Word{num(1)}, api.MaxKept-kept)...)
		was := k.Space().Kept()
		if _, e := prim.Do(k, of, s, r, args); e != api.OK {
			t.Fatalf("%q of %d = %d", s, r, e)
		}
		if !slices.Equal(k.Space().Kept(), was) {
			t.Fatalf("%d words are kept", len(k.Space().Kept()))
		}
		k.Space().Drop(api.MaxKept - kept)
	})
}

// P17.4: no answer hangs on an oop, or on a collection: the same is asked of a
// kernel with other oops, and of one that is full of garbage.
func TestOtherOops(t *testing.T) {
	tell := func(k *class.Kernel) []string {
		var list []string
		p := defined(t, k, "Pair", "Object", "x", "y")
		for _, s := range []string{"abc", "", "abd"} {
			w, u := str(t, k, s), str(t, k, "abc")
			for _, selector := range []string{"size", "isEmpty", "asSymbol"} {
				list = append(list, answered(prim.Do(k, api.String, selector, w, nil)))
			}
			for _, selector := range []string{"<", "="} {
				list = append(list, answered(prim.Do(k, api.String, selector, w, []api.Word{u})))
			}
		}
		o := fresh(t, k, api.Class, "new", obj(p))
		for _, selector := range []string{"instVarSize", "isNil", "notNil"} {
			list = append(list, answered(prim.Do(k, api.Object, selector, o, nil)))
		}
		return append(list, answered(prim.Do(k, api.Object, "isKindOf:", o, []api.Word{obj(p)})))
	}
	plain, littered := booted(t, 1000, 100), booted(t, 1000, 100)
	for range 30 {
		littered.Space().Alloc(4, 3, 0)
	}
	laid(t, littered, api.Array, 0, num(1))
	if a, b := tell(plain), tell(littered); !slices.Equal(a, b) {
		t.Fatalf("%q, %q", a, b)
	}
}

func answered(w api.Word, e api.Errno) string { return fmt.Sprint(w, int(e)) }
