package prim_test

import (
	"math"
	"slices"
	"strings"
	"testing"

	"kiln/api"
	"kiln/class"
	"kiln/prim"
)

// lines goes through the table: a class and a selector, and a receiver and
// arguments that it takes.
func lines(t *testing.T, k *class.Kernel, ask func(of int, selector string, r api.Word, args []api.Word)) {
	t.Helper()
	text := str(t, k, "abc")
	receivers := map[int]api.Word{
		api.Object: laid(t, k, api.Object, 0, num(5)), api.TrueClass: yes, api.FalseClass: no, api.Integer: num(7), api.Symbol: symbol(t, k, "abc"),
		api.String: text, api.Array: array(t, k, num(1), null), api.Class: obj(api.String),
		api.Block: laid(t, k, api.Block, 0, null, null, null, num(0), num(2), num(2)), api.Message: laid(t, k, api.Message, 0, 2, empty),
	}
	for of, list := range table() {
		for _, s := range strings.Fields(list) {
			args := slices.Repeat([]api.Word{num(1)}, takes(s))
			switch s {
			case "isKindOf:":
				args[0] = obj(api.Object)
			case "&", "and:", "or:":
				args[0] = yes
			case ",":
				args[0] = text
			case "<":
				args[0] = receivers[of]
			}
			r := receivers[of]
			if s == "new" {
				r = obj(api.Object)
			}
			ask(of, s, r, args)
		}
	}
}

// All lines answer something, but those that are the interpreter's.
func TestLines(t *testing.T) {
	k := booted(t, 2000, 200)
	lines(t, k, func(of int, s string, r api.Word, args []api.Word) {
		wanted := api.OK
		if activates(of, s) {
			wanted = api.ErrArg
		}
		if w, e := prim.Do(k, of, s, r, args); e != wanted || (w == 0) != (e != api.OK) {
			t.Fatalf("Do(%d, %q, %d, %d) = %d, %d", of, s, r, args, w, e)
		}
	})
}

// P17.2: without a kernel, and with one that no call made, whatever else is wrong.
func TestNoKernel(t *testing.T) {
	known := booted(t, 2000, 200)
	copied := *known
	for _, k := range []*class.Kernel{nil, new(class.Kernel), &copied} {
		lines(t, known, func(of int, s string, r api.Word, args []api.Word) {
			want(t, k, of, s, 0, api.ErrNil, r, args...)
		})
		want(t, k, 4711, "", 0, api.ErrNil, 0)
		want(t, k, api.Integer, "foo", 0, api.ErrNil, null, 0, 0)
		want(t, k, api.Block, "value", 0, api.ErrNil, null)
	}
}

// P17.2: what the table has not, and what activates a block.
func TestNoPrimitive(t *testing.T) {
	k := booted(t, 2000, 200)
	was := seen(k)
	for _, of := range numbersTo(30) {
		for _, s := range []string{"", "foo", "==", "class", "value", "value:", "+", "new", "|", ",", "size", "doesNotUnderstand:", strings.Repeat("value:", 9)} {
			if prim.Has(of, s) && !activates(of, s) {
				continue
			}
			for n := range 10 {
				args := slices.Repeat([]api.Word{num(1)}, n)
				for _, r := range []api.Word{num(3), null, yes, obj(4), obj(99), 0, 2} {
					want(t, k, of, s, 0, api.ErrArg, r, args...)
				}
			}
		}
	}
	if seen(k) != was {
		t.Fatal("what is refused has changed something")
	}
	// A block that could be activated.
	b := laid(t, k, api.Block, 0, null, null, null, num(0), num(2), num(2))
	want(t, k, api.Block, "value:value:", 0, api.ErrArg, b, num(3), num(4))
}

// P17.2: as many arguments as the selector takes, whatever the receiver is.
func TestHowManyArguments(t *testing.T) {
	k := booted(t, 2000, 200)
	lines(t, k, func(of int, s string, r api.Word, args []api.Word) {
		was := seen(k)
		for n := range 12 {
			if n == len(args) {
				continue
			}
			list := append(slices.Clone(args), slices.Repeat([]api.Word{num(1)}, 12)...)[:n]
			want(t, k, of, s, 0, api.ErrArg, r, list...)
			want(t, k, of, s, 0, api.ErrArg, 0, list...)
			want(t, k, of, s, 0, api.ErrArg, obj(api.Method), list...)
		}
		if len(args) == 0 && !activates(of, s) {
			if _, e := prim.Do(k, of, s, r, []api.Word{}); e != api.OK {
				t.Fatalf("Do(%d, %q) with an empty list = %d", of, s, e)
			}
		} else if seen(k) != was {
			t.Fatalf("%q has changed something", s)
		}
	})
}

// P17.2: what is no word, and objects that are not there, in each place, ahead
// of a receiver that is not of the class.
func TestNoWords(t *testing.T) {
	k := booted(t, 2000, 200)
	bad := []api.Word{0, -2, -4, 16386, 262148, 1<<31 + 1, -1<<31 - 1, math.MaxInt - 1, math.MinInt, obj(199), obj(200), obj(201), 262144}
	lines(t, k, func(of int, s string, r api.Word, args []api.Word) {
		was := seen(k)
		for _, w := range bad {
			want(t, k, of, s, 0, api.ErrArg, w, args...)
			for i := range args {
				list := slices.Clone(args)
				list[i] = w
				want(t, k, of, s, 0, api.ErrArg, r, list...)
				want(t, k, of, s, 0, api.ErrArg, obj(api.Root), list...)
			}
		}
		if seen(k) != was {
			t.Fatalf("%q has changed something", s)
		}
	})
}

// P17.2: a receiver of another class, whatever the arguments are.
func TestReceiversOfOthers(t *testing.T) {
	k := booted(t, 2000, 200)
	p := defined(t, k, "P", "Object", "x")
	all := map[api.Word]int{
		num(3): api.Integer, num(0): api.Integer, symbol(t, k, "abc"): api.Symbol, 2: api.Symbol, 4*4095 + 2: api.Symbol, null: api.UndefinedObject,
		yes: api.TrueClass, no: api.FalseClass, str(t, k, "abc"): api.String, array(t, k, num(2)): api.Array, empty: api.Array,
		obj(api.Object): api.Class, obj(p): api.Class, laid(t, k, api.Object, 0): api.Object, laid(t, k, p, 0, null): p,
		laid(t, k, api.Block, 0, null, null, null, num(0), num(2), num(2)): api.Block, laid(t, k, api.Message, 0, 2, empty): api.Message,
		laid(t, k, api.Method, 0, null): api.Method, laid(t, k, api.Context, 0, null): api.Context, laid(t, k, api.Process, 0, null): api.Process,
	}
	lines(t, k, func(of int, s string, r api.Word, args []api.Word) {
		if activates(of, s) {
			return
		}
		was := seen(k)
		for w, is := range all {
			if is != of && of != api.Object {
				want(t, k, of, s, 0, api.ErrPrim, w, args...)
			} else if _, e := prim.Do(k, of, s, w, args); e == api.ErrArg || e == api.ErrPrim && of == api.Object {
				t.Fatalf("Do(%d, %q, %d, %d) = %d", of, s, w, args, e)
			}
		}
		if of != api.Object && len(args) < 2 && prim.Has(of, s) && !makes(of, s) && seen(k) != was {
			t.Fatalf("%q has changed something", s)
		}
	})
	// An object whose class is none, or no class in the list of all, is of none.
	for _, c := range []api.Word{null, num(4), 2, obj(199), empty} {
		w := laid(t, k, api.Object, 0)
		k.Space().Heap().SetClass(int(w/4), c)
		want(t, k, api.Object, "yourself", 0, api.ErrPrim, w)
		want(t, k, api.Integer, "negated", 0, api.ErrPrim, w)
	}
}

// makes tells whether a line of the table makes an object, or a symbol.
func makes(of int, s string) bool {
	return of == api.Object && s == "copy" || of != api.Array && slices.Contains([]string{"printString", "asString", ",", "new", "new:", "asSymbol"}, s)
}

// P17.2: classes, blocks and messages whose slots are not as the kernel makes them.
func TestForms(t *testing.T) {
	k := booted(t, 4000, 400)
	for _, c := range []struct {
		of, slots int
		selectors string
		arg       []api.Word
	}{
		{api.Class, 7, "name superclass new", nil}, {api.Class, 7, "new:", []api.Word{num(1)}},
		{api.Block, 6, "numArgs", nil}, {api.Message, 2, "selector arguments", nil},
	} {
		for _, s := range strings.Fields(c.selectors) {
			for n := range 10 {
				good := laid(t, k, c.of, api.FormatWords, slices.Repeat([]api.Word{num(2)}, n)...)
				if n != c.slots {
					want(t, k, c.of, s, 0, api.ErrPrim, good, c.arg...)
				} else if s != "new" && s != "new:" {
					want(t, k, c.of, s, num(2), api.OK, good, c.arg...)
				} else {
					want(t, k, c.of, s, 0, api.ErrPrim, good, c.arg...)
				}
				bytes := laid(t, k, c.of, api.FormatBytes, slices.Repeat([]api.Word{3}, n)...)
				want(t, k, c.of, s, 0, api.ErrPrim, bytes, c.arg...)
				// As an Object they are what they are.
				want(t, k, api.Object, "yourself", good, api.OK, good)
				want(t, k, api.Object, "class", obj(c.of), api.OK, bytes)
			}
		}
	}
	for _, w := range []api.Word{null, 2, yes, empty} {
		b := laid(t, k, api.Block, 0, num(1), num(1), num(1), num(1), w, num(1))
		want(t, k, api.Block, "numArgs", 0, api.ErrPrim, b)
	}
	b := laid(t, k, api.Block, 0, null, null, null, null, num(3), null)
	want(t, k, api.Block, "numArgs", num(3), api.OK, b)
	// What is handed as x need not be so.
	want(t, k, api.Object, "isKindOf:", no, api.OK, num(3), laid(t, k, api.Class, 0, null))
}

// P17.2: objects that are called numbers or symbols are none.
func TestNoNumbersAndSymbols(t *testing.T) {
	k := booted(t, 2000, 200)
	i, s := laid(t, k, api.Integer, 0, num(3)), laid(t, k, api.Symbol, 0, 2)
	lines(t, k, func(of int, selector string, _ api.Word, args []api.Word) {
		if of == api.Integer {
			want(t, k, of, selector, 0, api.ErrPrim, i, args...)
		}
		if of == api.Symbol {
			want(t, k, of, selector, 0, api.ErrPrim, s, args...)
		}
	})
	want(t, k, api.Integer, "+", 0, api.ErrPrim, num(3), i)
	want(t, k, api.Symbol, "<", 0, api.ErrPrim, 2, s)
}

// P17.5: the list of arguments stays, spare room too, and is not kept.
func TestArguments(t *testing.T) {
	k := booted(t, 2000, 200)
	a := array(t, k, null, null, null)
	room := []api.Word{num(2), num(7), num(8), num(9)}
	if _, e := prim.Do(k, api.Array, "at:put:", a, room[:2]); e != api.OK {
		t.Fatalf("Do = %d", e)
	}
	lines(t, k, func(of int, s string, r api.Word, args []api.Word) {
		list := append(slices.Clone(args), num(11), num(12))
		was := slices.Clone(list)
		prim.Do(k, of, s, r, list[:len(args)])
		if !slices.Equal(list, was) {
			t.Fatalf("the list of %q became %d", s, list)
		}
	})
	if !slices.Equal(room, []api.Word{num(2), num(7), num(8), num(9)}) {
		t.Fatalf("the list became %d", room)
	}
	room[0], room[1] = num(1), num(1)
	wantObject(t, k, a, api.Array, 0, null, num(7), null)
}
