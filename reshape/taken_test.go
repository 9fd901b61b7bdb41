package reshape_test

import (
	"fmt"
	"slices"
	"testing"

	"kiln/api"
	"kiln/dict"
	"kiln/method"
	"kiln/proc"
	"kiln/reshape"
)

// P21.2: what is allocated, in this order: the Array of own names; by classes
// code and method of each method, and the Array of methods; by classes the bodies.
func TestOrderOfAllocations(t *testing.T) {
	w := family(t)
	w.k.Space().Collect()
	was := w.live()
	p, q, r := w.named("P"), w.named("Q"), w.named("R")
	w.wantDo("P", "new y x")
	// No oop was free between others but where the collection has left holes:
	// the order is told by places.
	made := w.k.Space().Heap().State().Objects[len(was)-4:]
	var got []string
	for _, o := range made {
		name := ""
		for n := 1; n <= w.k.Count(); n++ {
			if c, _ := w.k.Numbered(n); obj(c) == o.Class {
				info, _ := w.k.Info(c)
				name = info.Name
			}
		}
		got = append(got, fmt.Sprint(name, len(o.Slots)))
	}
	want := fields("Array3 Array14 Method9 Array8 Method9 Array2 Array8 Method9 Array1 P3 P3 Q4 R6")
	if !slices.Equal(got, want) {
		t.Fatalf("it was allocated: %q, want %q", got, want)
	}
	if made[9].Oop > made[10].Oop {
		t.Fatal("the instances do not rise")
	}
	if w.at(p, api.ClassOwn) != obj(made[0].Oop) || w.at(p, api.ClassMethods) != obj(made[5].Oop) || w.at(q, api.ClassMethods) != obj(made[8].Oop) || w.at(r, api.ClassMethods) != empty {
		t.Fatal("the classes have not what was made for them")
	}
	if m := made[5].Slots; m[0] != obj(made[2].Oop) || m[1] != obj(made[4].Oop) || made[2].Slots[api.MethodCode] != obj(made[1].Oop) {
		t.Fatal("the methods are not in order")
	}
}

// P21.2: an Array of no names is not allocated, nor one of no methods; a body
// without slots is.
func TestEmptyLists(t *testing.T) {
	w := bare(t, 2000, 200)
	e := w.class("E", "Object", "a b")
	mark := w.k.Space().Heap().Mark
	mark(1)
	w.wantDo("E", "")
	w.wantFields("E", "", 1)
	if w.at(e, api.ClassOwn) != empty || w.at(e, api.ClassMethods) != empty || w.at(e, api.ClassSelectors) != empty {
		t.Fatal("a list is not the empty Array")
	}
	if m := w.k.Space().Heap().Marked(); m != 1 {
		t.Fatalf("the mark is %d", m)
	}
	mark(0)
	o := w.keep(w.instance("E"))
	for _, c := range []struct {
		own    string
		allocs int
	}{{"a", 2}, {"", 1}, {"b a", 2}, {"c", 2}, {"", 1}} {
		for k := range c.allocs {
			mark(k + 1)
			w.wantNotDo("E", c.own, refused(api.ErrMarked))
		}
		mark(c.allocs + 1)
		w.wantDo("E", c.own)
		if m := w.k.Space().Heap().Marked(); m != 1 {
			t.Fatalf("the mark is %d", m)
		}
	}
	w.wantSlots(o, "E")
}

// P21.2, 6: the old bodies are freed at once, and nothing else is.
func TestBodiesAreFreed(t *testing.T) {
	w := bare(t, 2000, 200)
	w.class("E", "Object", "a b")
	for range 5 {
		w.keep(w.instance("E", num(1), num(2)))
	}
	w.k.Space().Collect()
	was := w.k.Space().Heap().All()
	w.wantDo("E", "b")
	// The new one is the Array of own names.
	if now := w.k.Space().Heap().All(); len(now) != len(was)+1 {
		t.Fatalf("there are %d, where there were %d", now, was)
	}
	words, oops := w.k.Space().Room()
	w.wantDo("E", "a b")
	if v, o := w.k.Space().Room(); v != words-6 || o != oops {
		t.Fatalf("there is room for %d, %d, where it was %d, %d", v, o, words, oops)
	}
}

// P21.3: instances are found wherever something leads to them, and keep their
// oops, their classes and their values.
func TestInstancesAnywhere(t *testing.T) {
	w := family(t)
	h := w.k.Space().Heap()
	w.global("H")
	ring := w.instance("P", num(1), null)
	w.hold(0, ring)
	w.put(ring, 1, obj(ring))
	list := w.instance("Array", null, null)
	w.hold(1, list)
	first := w.instance("Q", obj(list), obj(ring), num(3))
	w.put(list, 0, obj(first))
	second := w.instance("R", obj(first), num(-7), 2, obj(w.named("P")), null)
	w.put(first, 0, obj(second))
	lost := w.instance("P", num(1), num(2))
	// One that only a process holds, in a context that waits.
	n, _ := proc.Spawn(w.k, "| a | a := Q new. a foo: (a twice)")
	if r, e := proc.Run(w.k, w.b, n, 2); r.State != api.Ready || e != api.OK {
		t.Fatalf("Run = %+v, %d", r, e)
	}
	top, _ := proc.Top(w.k, n)
	held := int(w.at(top, api.ContextReceiver)) / 4
	w.wantSlots(held, "Q", null, null, null)
	context := w.slots(top)
	w.wantDo("P", "n1 y n2 x n3")
	w.wantSlots(ring, "P", null, obj(ring), null, num(1), null)
	w.wantSlots(list, "Array", obj(first), null)
	w.wantSlots(first, "Q", null, obj(ring), null, obj(second), null, num(3))
	w.wantSlots(second, "R", null, num(-7), null, obj(first), null, 2, obj(w.named("P")), null)
	w.wantSlots(held, "Q", null, null, null, null, null, null)
	if now := w.slots(top); !slices.Equal(now, context) {
		t.Fatalf("the context has %d, had %d", now, context)
	}
	if c, e := h.Class(lost); e == api.OK && c == obj(w.named("P")) {
		t.Fatal("what nothing leads to is still an instance")
	}
}

// P21.3: what is neither a class of the plan nor an instance of one is as it
// was, the old methods and their Arrays, too, as long as something leads to them.
func TestOthersStay(t *testing.T) {
	w := family(t)
	p, q := w.named("P"), w.named("Q")
	for _, c := range []int{p, q} {
		w.k.Space().Keep(w.at(c, api.ClassMethods), w.at(c, api.ClassOwn))
	}
	w.k.Space().Collect()
	was := map[int]api.HeapObject{}
	for _, o := range w.live() {
		was[o.Oop] = o
	}
	w.wantDo("P", "y new x")
	changed := []api.Word{obj(p), obj(q), obj(w.named("R"))}
	for _, o := range w.k.Space().Heap().State().Objects {
		old, there := was[o.Oop]
		if !there || slices.Contains(changed, o.Class) {
			continue
		}
		if slices.Contains(changed, obj(o.Oop)) {
			for _, i := range []int{api.ClassName, api.ClassSuper, api.ClassSelectors, api.ClassNumber} {
				if o.Slots[i] != old.Slots[i] {
					t.Fatalf("the class %v was %v", o, old)
				}
			}
			continue
		}
		if fmt.Sprint(o) != fmt.Sprint(old) {
			t.Fatalf("%v was %v", o, old)
		}
	}
	w.wantFields("S", "x", 0)
	w.wantFields("P", "y new x", 1)
	w.wantFields("Q", "y new x z", 1)
	w.wantFields("R", "y new x z u v", 1)
	if w.at(q, api.ClassOwn) != w.k.Space().Kept()[8] {
		t.Fatal("a descendant has another Array of own names")
	}
}

// P21.3: each method is the one that a compile of its source makes now, but
// for the old literals and the old source.
func TestMethodsAnew(t *testing.T) {
	w := family(t)
	w.method("P", "blocks: i | t | t := [:a | x := a. y + i]. 1 to: i do: [:j | t value: j]. ^[t := #(1 #two). 'three']")
	w.method("P", "x: i x := i. ^super + y")
	olds := map[string]int{}
	p := w.named("P")
	for _, s := range w.b.Selectors(p) {
		_, olds[s] = w.info("P", s)
		w.keep(olds[s])
	}
	w.wantDo("P", "w y x")
	if got := w.b.Selectors(p); !slices.Equal(got, fields("at: blocks: sum x:")) {
		t.Fatalf("the selectors are %q", got)
	}
	for s, old := range olds {
		now, m := w.info("P", s)
		for _, i := range []int{api.MethodSelector, api.MethodClass, api.MethodArgs, api.MethodLiterals, api.MethodSource} {
			if w.at(m, i) != w.at(old, i) {
				t.Fatalf("the slot %d of %s is %d, was %d", i, s, w.at(m, i), w.at(old, i))
			}
		}
		fresh, f := method.Compile(w.k, p, now.Source)
		if f.Code != api.OK {
			t.Fatalf("Compile = %+v", f)
		}
		want, _ := method.Info(w.k, fresh)
		want.Literals = now.Literals
		if fmt.Sprint(now) != fmt.Sprint(want) || now.Layout != 1 {
			t.Fatalf("the method is %+v, want %+v", now, want)
		}
		was, _ := method.Info(w.k, old)
		if was.Layout != 0 || slices.Equal(was.Code, now.Code) {
			t.Fatalf("the old method is %+v", was)
		}
	}
}

// P21.3: fields that go and come back are nil; those that stay have their
// values, through any number of reshapes.
func TestThereAndBack(t *testing.T) {
	w := bare(t, 3000, 300)
	w.class("P", "Object", "a b c")
	o := w.keep(w.instance("P", num(1), num(2), num(3)))
	w.wantDo("P", "c a")
	w.wantSlots(o, "P", num(3), num(1))
	w.wantDo("P", "a b c")
	w.wantSlots(o, "P", num(1), null, num(3))
	w.wantDo("P", "")
	w.wantSlots(o, "P")
	w.wantDo("P", "a b c")
	w.wantSlots(o, "P", null, null, null)
	w.put(o, 0, num(9))
	for i := range 40 {
		own := numbered("f", i%31)
		w.wantDo("P", own+" a")
		w.wantFields("P", own+" a", 5+i)
		if x := w.slots(o); len(x) != i%31+1 || x[len(x)-1] != num(9) {
			t.Fatalf("the instance is %d", x)
		}
	}
}

// P21.3: methods find fields by their names, whatever becomes of their places.
func TestMethodsRun(t *testing.T) {
	w := bare(t, 6000, 600)
	w.class("P", "Object", "x y")
	w.class("Q", "P", "z")
	w.global("G")
	w.method("P", "x: a y: b x := a. y := b")
	w.method("P", "diff ^x - y")
	w.method("Q", "z: c z := c")
	w.method("Q", "all ^self diff * z")
	w.answers("G := Q new. G x: 30 y: 9; z: 2. ^G all", num(42))
	for _, own := range []string{"y x", "d y e x f", "x y", "y q1 q2 q3 x"} {
		w.wantDo("P", own)
		w.answers("^G all", num(42))
		w.answers("| n | n := Q new. n x: 5 y: 1; z: 3. ^n all", num(12))
	}
	w.wantDo("Q", "u z")
	w.answers("^G all", num(42))
	w.wantDo("Q", "z")
	w.wantDo("P", "x y")
	w.answers("G x: 1 y: 0. ^G all", num(2))
}

// P21.2, 6: the cache is flushed; another book sees it behind its own Flush.
func TestFlush(t *testing.T) {
	w, _ := chapter(t)
	p := w.named("P")
	other, _ := dict.New(w.k)
	sum, _ := w.k.Symbols().Find("sum")
	_, old := w.info("P", "sum")
	for _, b := range []*dict.Book{w.b, other} {
		if m, c := b.Lookup(p, sum); m != old || c != p {
			t.Fatalf("Lookup = %d, %d", m, c)
		}
	}
	w.wantDo("P", "y x")
	_, now := w.info("P", "sum")
	hits := w.b.Hits()
	if m, c := w.b.Lookup(p, sum); m != now || c != p || now == old || w.b.Hits() != hits {
		t.Fatalf("Lookup = %d, %d, want %d; Hits = %d, were %d", m, c, now, w.b.Hits(), hits)
	}
	other.Flush()
	if m, _ := other.Lookup(p, sum); m != now {
		t.Fatalf("Lookup = %d, want %d", m, now)
	}
}

// P21.6: own is neither changed nor kept.
func TestOwnIsNotKept(t *testing.T) {
	w, o := chapter(t)
	own := fields("y z x")
	if r := reshape.Do(w.k, w.b, "P", own); r != (api.Refusal{}) {
		t.Fatalf("Do = %+v", r)
	}
	own[0], own[1], own[2] = "a", "b", "c"
	w.wantFields("P", "y z x", 1)
	w.wantSlots(o, "P", num(2), null, num(1))
	w.answers("^G sum", num(3))
}

// P21.2, 5: an instance that was made ahead of a reshape that nobody told it
// of, with fewer slots than its class has fields, gets nil where it has none.
func TestTooFewSlots(t *testing.T) {
	w, _ := chapter(t)
	o := w.keep(w.instance("P", num(7)))
	more := w.keep(w.instance("P", num(7), num(8), num(9)))
	w.wantDo("P", "y x")
	w.wantSlots(o, "P", null, num(7))
	w.wantSlots(more, "P", num(8), num(7))
}
