package inspect_test

import (
	"math"
	"strings"
	"testing"

	"kiln/api"
	"kiln/class"
	"kiln/inspect"
)

// P22.2: ErrNil ahead of all others.
func TestValueNil(t *testing.T) {
	w := booted(t, 1000, 100)
	copied := *w.k
	for _, k := range []*class.Kernel{nil, {}, &copied} {
		for _, x := range []api.Word{0, -4, num(1), 2, null, obj(90), math.MaxInt, math.MinInt} {
			if s, e := inspect.Value(k, x); s != "" || e != api.ErrNil {
				t.Fatalf("Value(%d) = %q, %d", x, s, e)
			}
		}
	}
}

// P22.2: what is no word, and objects that are not there.
func TestValueRefused(t *testing.T) {
	w := booted(t, 1000, 100)
	for _, x := range []api.Word{0, -2, -4, 16386, 262148, 2147483649, -2147483649, math.MaxInt, math.MinInt, math.MaxInt - 3} {
		w.answers(x, "", api.ErrWord)
	}
	for _, oop := range []int{21, 22, 99, 100, 101, 65535, 65536} {
		w.answers(obj(oop), "", api.ErrOop)
	}
	s := w.str("gone")
	w.value(s, "'gone'")
	w.k.Space().Drop(1)
	w.value(s, "'gone'")
	w.k.Space().Collect()
	w.answers(s, "", api.ErrOop)
}

// P22.2: words that have a form of their own.
func TestValueForms(t *testing.T) {
	w := booted(t, 1000, 100)
	w.value(num(most), "1073741823")
	w.value(num(least), "-1073741824")
	w.value(num(0), "0")
	w.value(null, "nil")
	w.value(no, "false")
	w.value(yes, "true")
	w.value(2, "#'Object'")
	w.value(w.symbol("a'b"), `#'a\'b'`)
	w.value(16382, "#")
	w.value(obj(api.Class), "Class")
	w.value(obj(w.class("Point", "Object", "x")), "Point")
}

// P22.2: of any other object the class's name, with what stands ahead of it.
func TestValueObjects(t *testing.T) {
	w := booted(t, 8000, 400)
	for _, c := range "ABCDEFGHIJKLMNOPQRSTUVWXYZ" {
		article := "a "
		if strings.ContainsRune("AEIOU", c) {
			article = "an "
		}
		for _, tail := range []string{"", "a", "EIOU0"} {
			name := string(c) + tail
			w.value(w.laid(w.class(name, "Object", ""), 0), article+name)
		}
	}
	w.value(w.laid(api.Object, 0), "an Object")
	w.value(empty, "an Array")
	w.value(w.array(empty), "an Array")
	w.value(obj(api.Root), "an Array")
	w.value(obj(api.Classes), "an Array")
	w.value(w.laid(api.Message, 0, 2, empty), "a Message")
	w.value(w.laid(api.Method, 0), "a Method")
	w.value(w.laid(api.Context, 0), "a Context")
	w.value(w.laid(api.Process, 0, null), "a Process")
	w.value(w.laid(api.Block, 0), "a Block")
	w.value(w.laid(api.UndefinedObject, 0), "an UndefinedObject")
	w.value(w.laid(api.Integer, 0), "an Integer")
}

// P22.2: strings, however long.
func TestValueStrings(t *testing.T) {
	w := booted(t, 8000, 100)
	w.value(w.str(""), "''")
	w.value(w.str("a'\\b"), `'a\'\\b'`)
	w.value(w.str(strings.Repeat("\x80", api.MaxSlots)), "'"+strings.Repeat(`\x80`, api.MaxSlots)+"'")
}

// An object whose class is none is there all the same.
func TestValueWithoutClass(t *testing.T) {
	w := booted(t, 1000, 100)
	for _, c := range []api.Word{num(3), 2, obj(90), null, empty} {
		x, e := w.k.Space().Alloc(c, 1, 0)
		if e != api.OK {
			t.Fatalf("Alloc = %d", e)
		}
		w.value(x, "a ")
	}
}
