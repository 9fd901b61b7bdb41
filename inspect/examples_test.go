package inspect_test

import (
	"strings"
	"testing"

	"kiln/api"
	"kiln/class"
	"kiln/inspect"
	"kiln/reshape"
)

// Examples 1 and 2.
func TestExampleForms(t *testing.T) {
	w := booted(t, 1000, 100)
	w.tells()
	w.global("G", null)
	w.tells("G = nil")
	w.hold(0, num(3))
	w.tells("G = 3")
	w.hold(0, w.symbol("at:put:"))
	w.tells("G = #'at:put:'")
	w.hold(0, obj(api.Object))
	w.tells("G = Object")
}

// Example 3.
func TestExampleArrays(t *testing.T) {
	w := booted(t, 1000, 100)
	a := w.array(num(3), null, null)
	w.put(a, 2, a)
	w.global("G", a)
	w.tells("G = @1", "@1 Array (3 nil @1)")
	w.hold(0, empty)
	w.tells("G = @1", "@1 Array ()")
}

// Example 4.
func TestExampleInstance(t *testing.T) {
	w := booted(t, 1000, 100)
	p := w.class("P", "Object", "x y")
	s := w.str("it's")
	w.global("G", w.laid(p, 0, s, s))
	w.tells("G = @1", "@1 P x=@2 y=@2", `@2 String 'it\'s'`)
}

// Example 5.
func TestExampleGlobals(t *testing.T) {
	w := booted(t, 1000, 100)
	first, second := w.laid(api.Object, 0), w.str("")
	w.global("A", first)
	w.global("B", first)
	w.tells("A = @1", "B = @1", "@1 Object")
	w.hold(1, second)
	w.tells("A = @1", "B = @2", "@1 Object", "@2 String ''")
	w.hold(0, second)
	w.hold(1, first)
	w.tells("A = @1", "B = @2", "@1 String ''", "@2 Object")
}

// Example 6.
func TestExampleWalk(t *testing.T) {
	w := booted(t, 1000, 100)
	d := w.str("d")
	b := w.array(d)
	e := w.str("e")
	c := w.array(b)
	w.global("G", w.array(c, e))
	w.tells("G = @1", "@1 Array (@2 @3)", "@2 Array (@4)", "@3 String 'e'", "@4 Array (@5)", "@5 String 'd'")
}

// Example 7.
func TestExampleValues(t *testing.T) {
	w := booted(t, 1000, 100)
	p := w.class("P", "Object", "x y")
	w.value(num(3), "3")
	w.value(yes, "true")
	w.value(obj(p), "P")
	w.value(obj(api.Integer), "Integer")
	w.value(w.str("a\n"), `'a\x0a'`)
	w.value(empty, "an Array")
	w.value(w.laid(p, 0, null, null), "a P")
	w.value(w.run("^[:x | x]"), "a Block")
}

// Example 8.
func TestExampleErrors(t *testing.T) {
	w := booted(t, 1000, 100)
	w.answers(0, "", api.ErrWord)
	w.answers(obj(90), "", api.ErrOop)
	if s, e := inspect.Value((*class.Kernel)(nil), num(3)); s != "" || e != api.ErrNil {
		t.Fatalf("Value = %q, %d", s, e)
	}
}

// Example 9.
func TestExampleMore(t *testing.T) {
	w := booted(t, 40000, 9000)
	all := make([]api.Word, api.MaxSlots)
	for i := range all {
		all[i] = w.array(num(i))
	}
	w.global("G", w.array(all...))
	lines := strings.Split(w.text(), "\n")
	if len(lines) != 1+2000+1+1 || lines[2001] != "more" || lines[2002] != "" {
		t.Fatalf("there are %d lines, the last of them %q", len(lines), lines[len(lines)-3:])
	}
	first := strings.Fields(strings.Trim(strings.TrimPrefix(lines[1], "@1 Array "), "()"))
	if len(first) != api.MaxSlots || first[0] != "@2" || first[1998] != "@2000" {
		t.Fatalf("the first line has %d forms", len(first))
	}
	for i, s := range first[1999:] {
		if s != "@" {
			t.Fatalf("the form %d is %q", 1999+i, s)
		}
	}
	if lines[2] != "@2 Array (0)" || lines[2000] != "@2000 Array (1998)" {
		t.Fatalf("the lines are %q, %q", lines[2], lines[2000])
	}
}

// Example 10.
func TestExampleBlock(t *testing.T) {
	w := booted(t, 1000, 100)
	w.global("G", null)
	w.run("| s | s := 'held'. G := [:a :b | s]")
	w.tells("G = @1", "@1 Block 2")
}

// The document's examples of the whole, 1 and 2.
func TestExampleWhole(t *testing.T) {
	w := booted(t, 6000, 800)
	p := w.class("P", "Object", "x y")
	w.global("G", null)
	w.method(p, "x: a y: b x := a. y := b")
	w.method(p, "sum ^x + y")
	w.value(w.run("G := P new. G x: 3 y: 4"), "nil")
	w.tells("G = @1", "@1 P x=3 y=4")
	w.value(w.run("^G sum"), "7")
	if r := reshape.Do(w.k, w.b, "P", []string{"y", "z", "x"}); r != (api.Refusal{}) {
		t.Fatalf("Do = %+v", r)
	}
	w.tells("G = @1", "@1 P y=4 z=nil x=3")
	tight := booted(t, 160, 20)
	tight.tells()
}
