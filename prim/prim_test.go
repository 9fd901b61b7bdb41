package prim_test

import (
	"fmt"
	"math"
	"slices"
	"strings"
	"testing"

	"kiln/api"
	"kiln/class"
	"kiln/prim"
)

const (
	null  api.Word = 4 * api.Nil
	yes   api.Word = 4 * api.True
	no    api.Word = 4 * api.False
	empty api.Word = 4 * api.Empty
	most           = 1<<30 - 1
	least          = -1 << 30
)

func num(n int) api.Word { return api.Word(2*n + 1) }

func obj(oop int) api.Word { return api.Word(4 * oop) }

func truth(is bool) api.Word {
	if is {
		return yes
	}
	return no
}

func booted(t *testing.T, words, oops int) *class.Kernel {
	t.Helper()
	k, e := class.Boot(words, oops)
	if e != api.OK {
		t.Fatalf("Boot(%d, %d) = %d", words, oops, e)
	}
	return k
}

// want asks for what is answered, or for what is refused.
func want(t *testing.T, k *class.Kernel, of int, selector string, w api.Word, e api.Errno, r api.Word, args ...api.Word) {
	t.Helper()
	if got, f := prim.Do(k, of, selector, r, args); got != w || f != e {
		t.Fatalf("Do(%d, %q, %d, %d) = %d, %d, want %d, %d", of, selector, r, args, got, f, w, e)
	}
}

// fresh is the new object that a primitive answers, which the space keeps from now on.
func fresh(t *testing.T, k *class.Kernel, of int, selector string, r api.Word, args ...api.Word) api.Word {
	t.Helper()
	had := k.Space().Heap().All()
	w, e := prim.Do(k, of, selector, r, args)
	if e != api.OK || w%4 != 0 || slices.Contains(had, int(w/4)) {
		t.Fatalf("Do(%d, %q, %d, %d) = %d, %d: no new object", of, selector, r, args, w, e)
	}
	k.Space().Keep(w)
	return w
}

// laid is an object with these slots, which the space keeps, made without a primitive.
func laid(t *testing.T, k *class.Kernel, of, format int, slots ...api.Word) api.Word {
	t.Helper()
	w, e := k.Space().Alloc(obj(of), len(slots), format)
	if e != api.OK {
		t.Fatalf("Alloc(%d, %d) = %d", of, len(slots), e)
	}
	k.Space().Keep(w)
	for i, x := range slots {
		if e := k.Space().Heap().Put(int(w/4), i, x); e != api.OK {
			t.Fatalf("Put(%d, %d, %d) = %d", w/4, i, x, e)
		}
	}
	return w
}

func str(t *testing.T, k *class.Kernel, text string) api.Word {
	t.Helper()
	var list []api.Word
	for i := range len(text) {
		list = append(list, api.Word(text[i]))
	}
	return laid(t, k, api.String, api.FormatBytes, list...)
}

func array(t *testing.T, k *class.Kernel, slots ...api.Word) api.Word {
	t.Helper()
	return laid(t, k, api.Array, api.FormatWords, slots...)
}

func symbol(t *testing.T, k *class.Kernel, text string) api.Word {
	t.Helper()
	n, e := k.Symbols().Add(text)
	if e != api.OK {
		t.Fatalf("Add(%q) = %d", text, e)
	}
	return api.Word(4*n + 2)
}

func defined(t *testing.T, k *class.Kernel, name, super string, own ...string) int {
	t.Helper()
	c, e := k.Define(name, super, own)
	if e != api.OK {
		t.Fatalf("Define(%q) = %d", name, e)
	}
	return c
}

// wantObject looks at an object: its class, its format, its slots.
func wantObject(t *testing.T, k *class.Kernel, w api.Word, of, format int, slots ...api.Word) {
	t.Helper()
	h := k.Space().Heap()
	c, _ := h.Class(int(w / 4))
	n, f, e := h.Size(int(w / 4))
	var list []api.Word
	for i := range n {
		x, _ := h.At(int(w/4), i)
		list = append(list, x)
	}
	if e != api.OK || c != obj(of) || f != format || !slices.Equal(list, slots) {
		t.Fatalf("the object %d is of %d, %d with %d, want %d, %d with %d", w/4, c/4, f, list, of, format, slots)
	}
}

func wantText(t *testing.T, k *class.Kernel, w api.Word, text string) {
	t.Helper()
	var list []api.Word
	for i := range len(text) {
		list = append(list, api.Word(text[i]))
	}
	wantObject(t, k, w, api.String, api.FormatBytes, list...)
}

// seen is all that there is of a kernel: objects, places, symbols, what is kept, the mark.
func seen(k *class.Kernel) string {
	s := k.Space()
	return fmt.Sprint(s.Heap().State(), s.Kept(), s.Crowned(), k.Symbols().All())
}

// table is the selectors of each class, as the chapter's table has them.
func table() map[int]string {
	return map[int]string{
		api.Object:     "== = ~~ class isNil notNil yourself isKindOf: instVarSize instVarAt: instVarAt:put: copy",
		api.TrueClass:  "not & and: or:",
		api.FalseClass: "not & and: or:",
		api.Integer:    `+ - * // \\ < > <= >= = ~= negated abs min: max: even odd bitAnd: bitOr: bitXor: bitShift: printString`,
		api.Symbol:     "size asString <",
		api.String:     "size isEmpty at: at:put: , = < asSymbol",
		api.Array:      "size isEmpty at: at:put:",
		api.Class:      "new new: name superclass",
		api.Block: "numArgs value value: value:value: value:value:value: value:value:value:value: value:value:value:value:value: " +
			"value:value:value:value:value:value: value:value:value:value:value:value:value: value:value:value:value:value:value:value:value:",
		api.Message: "selector arguments",
	}
}

// takes is how many arguments a selector of the table takes.
func takes(selector string) int {
	if strings.Contains("== = ~~ & + - * // \\\\ < > <= >= ~= ,", selector) {
		return 1
	}
	return strings.Count(selector, ":")
}

// activates tells whether it is the interpreter's to do it.
func activates(of int, selector string) bool {
	return of == api.Block && strings.HasPrefix(selector, "value")
}

// P17.1: each line of the table, of its class alone.
func TestHas(t *testing.T) {
	every := []string{"", " ", "value:value", "at", "at:at:", "put:", "|", "doesNotUnderstand:", "foo", strings.Repeat("value:", 9), "ifTrue:", "+ ", "\\", "Class", "new:new:"}
	for _, list := range table() {
		every = append(every, strings.Fields(list)...)
	}
	for _, of := range numbersTo(40) {
		has := strings.Fields(table()[of])
		for _, s := range every {
			if is := prim.Has(of, s); is != slices.Contains(has, s) {
				t.Fatalf("Has(%d, %q) = %v", of, s, is)
			}
		}
	}
}

func numbersTo(n int) []int {
	list := []int{math.MinInt, math.MaxInt, math.MaxInt/2 + 1, 65536, 65537, 4711, -1, -4}
	for i := range n {
		list = append(list, i)
	}
	return list
}

// P17.1: all of them, rising.
func TestSelectors(t *testing.T) {
	for _, of := range numbersTo(40) {
		has := strings.Fields(table()[of])
		slices.Sort(has)
		if list := prim.Selectors(of); !slices.Equal(list, has) {
			t.Fatalf("Selectors(%d) = %q, want %q", of, list, has)
		}
	}
}

// P17.1: the list is new memory, spare room too.
func TestSelectorsAreNew(t *testing.T) {
	for of := range table() {
		one, two := prim.Selectors(of), prim.Selectors(of)
		was := slices.Clone(two)
		for i := range one[:cap(one)] {
			one[:cap(one)][i] = "x"
		}
		if !slices.Equal(two, was) || !slices.Equal(prim.Selectors(of), was) {
			t.Fatalf("Selectors(%d) = %q", of, two)
		}
	}
}

// The chapter's examples 1 to 5.
func TestExamples(t *testing.T) {
	if !prim.Has(api.Integer, "+") || !prim.Has(api.Object, "class") || !prim.Has(api.Block, "value:value:") {
		t.Fatal("Has is false")
	}
	if prim.Has(api.Integer, "class") || prim.Has(4711, "+") || prim.Has(api.Method, "name") || prim.Has(api.Block, "value:value") {
		t.Fatal("Has is true")
	}
	if l := prim.Selectors(api.TrueClass); !slices.Equal(l, []string{"&", "and:", "not", "or:"}) || len(prim.Selectors(api.Method)) != 0 {
		t.Fatalf("Selectors = %q", l)
	}
	k := booted(t, 1000, 100)
	a := symbol(t, k, "a")
	want(t, k, api.Integer, "+", num(7), api.OK, num(3), num(4))
	want(t, k, api.Integer, "+", num(least), api.OK, num(most), num(1))
	want(t, k, api.Integer, "+", 0, api.ErrPrim, num(3), null)
	want(t, k, api.Integer, "//", num(-4), api.OK, num(7), num(-2))
	want(t, k, api.Integer, `\\`, 0, api.ErrZero, num(7), num(0))
	want(t, k, api.Integer, "=", no, api.OK, num(3), a)
	want(t, k, api.Integer, "~=", yes, api.OK, num(3), null)
	want(t, k, api.Integer, "abs", num(least), api.OK, num(least))
	want(t, k, api.Integer, "+", 0, api.ErrPrim, a, num(3))
	want(t, k, api.Integer, "+", 0, api.ErrArg, num(3))
	want(t, k, api.Integer, "+", 0, api.ErrArg, num(3), num(4), num(5))
	want(t, k, api.Integer, "+", 0, api.ErrArg, 0, num(4))
	want(t, k, api.Integer, "+", 0, api.ErrArg, num(3), 0)
	want(t, k, api.Class, "new", obj(21), api.OK, obj(api.Object))
	wantObject(t, k, obj(21), api.Object, api.FormatWords)
	want(t, k, api.Class, "new", 0, api.ErrPrim, obj(api.Integer))
	wantText(t, k, fresh(t, k, api.Class, "new:", obj(api.String), num(3)), "\x00\x00\x00")
	was := seen(k)
	want(t, k, api.Class, "new:", empty, api.OK, obj(api.Array), num(0))
	want(t, k, api.Class, "new:", 0, api.ErrPrim, obj(api.Array), num(8193))
	want(t, k, api.Class, "new:", 0, api.ErrPrim, obj(api.String), num(8193))
	want(t, k, api.Class, "new:", 0, api.ErrPrim, obj(api.Object), num(2))
	if seen(k) != was {
		t.Fatal("something was made")
	}
	abc := str(t, k, "abc")
	want(t, k, api.String, "at:", num(97), api.OK, abc, num(1))
	want(t, k, api.String, "at:", 0, api.ErrIndex, abc, num(0))
	want(t, k, api.String, "at:", 0, api.ErrIndex, abc, num(4))
	want(t, k, api.String, "at:", 0, api.ErrPrim, abc, null)
	want(t, k, api.String, "at:put:", 0, api.ErrPrim, abc, num(9), num(256))
	want(t, k, api.String, "at:put:", 0, api.ErrIndex, abc, num(9), num(255))
	want(t, k, api.String, "at:put:", num(120), api.OK, abc, num(2), num(120))
	wantText(t, k, abc, "axc")
}

// The chapter's examples 6 to 10.
func TestExamplesOfObjects(t *testing.T) {
	k := booted(t, 1000, 100)
	ab, c, b, none := str(t, k, "ab"), str(t, k, "c"), str(t, k, "b"), str(t, k, "")
	sym := symbol(t, k, "ab")
	wantText(t, k, fresh(t, k, api.String, ",", ab, c), "abc")
	want(t, k, api.String, "=", yes, api.OK, ab, str(t, k, "ab"))
	want(t, k, api.String, "=", no, api.OK, ab, sym)
	want(t, k, api.String, "<", yes, api.OK, ab, b)
	want(t, k, api.String, "<", yes, api.OK, none, str(t, k, "a"))
	want(t, k, api.String, "asSymbol", sym, api.OK, ab)
	want(t, k, api.String, "asSymbol", 0, api.ErrPrim, none)
	wantText(t, k, fresh(t, k, api.Symbol, "asString", sym), "ab")
	want(t, k, api.Object, "copy", num(3), api.OK, num(3))
	want(t, k, api.Object, "copy", null, api.OK, null)
	want(t, k, api.Object, "copy", empty, api.OK, empty)
	pair := defined(t, k, "P", "Object", "x", "y")
	wantObject(t, k, fresh(t, k, api.Object, "copy", laid(t, k, pair, 0, 3, ab)), pair, 0, 3, ab)
	want(t, k, api.Object, "isKindOf:", yes, api.OK, num(3), obj(api.Integer))
	want(t, k, api.Object, "isKindOf:", yes, api.OK, num(3), obj(api.Object))
	want(t, k, api.Object, "isKindOf:", no, api.OK, num(3), obj(api.String))
	want(t, k, api.Object, "isKindOf:", 0, api.ErrPrim, num(3), num(3))
	want(t, k, api.Object, "isKindOf:", yes, api.OK, obj(api.Object), obj(api.Class))
	want(t, k, api.Class, "superclass", null, api.OK, obj(api.Object))
	want(t, k, api.Class, "superclass", obj(api.Object), api.OK, obj(api.Integer))
	want(t, k, api.Class, "name", symbol(t, k, "Integer"), api.OK, obj(api.Integer))
	k.Space().Heap().Mark(1)
	want(t, k, api.Integer, "printString", 0, api.ErrMarked, num(3))
	wantText(t, k, fresh(t, k, api.Integer, "printString", num(3)), "3")
	want(t, booted(t, 160, 20), api.Integer, "printString", 0, api.ErrFull, num(3))
}
