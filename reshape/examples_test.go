package reshape_test

import (
	"slices"
	"testing"

	"kiln/api"
	"kiln/method"
)

// Example 1.
func TestExampleTaken(t *testing.T) {
	w, o := chapter(t)
	w.answers("^G sum", num(3))
	was, old := w.info("P", "sum")
	w.keep(old)
	w.wantDo("P", "y z x")
	w.wantSlots(o, "P", num(2), null, num(1))
	if x, _ := w.k.Value(0); x != obj(o) {
		t.Fatalf("G holds %d, want %d", x, obj(o))
	}
	w.answers("^G sum", num(3))
	w.wantFields("P", "y z x", 1)
	now, m := w.info("P", "sum")
	if m == old || !method.Stale(w.k, old) || method.Stale(w.k, m) {
		t.Fatalf("the old method %d, the new one %d: stale %v, %v", old, m, method.Stale(w.k, old), method.Stale(w.k, m))
	}
	plus, _ := w.k.Symbols().Find("+")
	if !slices.Equal(now.Code, []int{9, 2, 9, 0, 17, plus, 1, 20}) || now.Layout != 1 {
		t.Fatalf("the new method is %+v", now)
	}
	if w.at(m, api.MethodSource) != w.at(old, api.MethodSource) || now.Literals != was.Literals {
		t.Fatal("literals and source are other objects")
	}
}

// Example 2.
func TestExampleUnknown(t *testing.T) {
	w, o := chapter(t)
	w.wantNotDo("P", "y", api.Refusal{Code: api.ErrUnknown, Class: "P", Selector: "sum", At: 5})
	w.wantSlots(o, "P", num(1), num(2))
	w.wantFields("P", "x y", 0)
}

// Example 3.
func TestExampleSame(t *testing.T) {
	w, _ := chapter(t)
	was := w.seen()
	w.wantDo("P", "x y")
	w.wantFields("P", "x y", 0)
	if w.seen() != was {
		t.Fatal("the present list has changed something")
	}
}

// Example 4.
func TestExampleMarks(t *testing.T) {
	w, o := chapter(t)
	for k := 1; k <= 5; k++ {
		w.k.Space().Heap().Mark(k)
		w.wantNotDo("P", "y new x", refused(api.ErrMarked))
	}
	w.k.Space().Heap().Mark(6)
	w.wantDo("P", "y new x")
	if m := w.k.Space().Heap().Marked(); m != 1 {
		t.Fatalf("the mark stands at %d", m)
	}
	w.wantSlots(o, "P", num(2), null, num(1))
}

// Example 5.
func TestExampleErrors(t *testing.T) {
	w, _ := chapter(t)
	w.wantNotDo("Object", "x", refused(api.ErrKernel))
	w.wantNotDo("Object", "", refused(api.ErrKernel))
	w.wantNotDo("P", "x x", refused(api.ErrDouble))
}

// Example 6.
func TestExampleFull(t *testing.T) {
	w, _ := chapter(t)
	w.leave(0, 20)
	w.wantNotDo("P", "y x", refused(api.ErrFull))
	w.wantNotDo("P", "", api.Refusal{Code: api.ErrUnknown, Class: "P", Selector: "sum", At: 5})
	// A space that is full of what nobody needs has room.
	w.k.Space().Drop(len(w.k.Space().Kept()))
	w.litter("Object", 2000, 2)
	if words, oops := w.k.Space().Heap().Room(); words > 4 && oops > 0 {
		t.Fatalf("there are %d words left, and %d oops", words, oops)
	}
	w.wantDo("P", "y x")
}

// Example 7.
func TestExampleTwice(t *testing.T) {
	w, _ := chapter(t)
	w.class("Q", "P", "")
	w.method("Q", "twice |z| z := x. ^z + z")
	w.wantNotDo("P", "x y z", api.Refusal{Code: api.ErrTwice, Class: "Q", Selector: "twice", At: 7})
	w.wantDo("P", "x y w")
	w.wantFields("Q", "x y w", 1)
}
