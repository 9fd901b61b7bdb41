package kiln

import (
	"testing"

	"kiln/api"
	"kiln/method"
)

// spoilable is a machine with the class P (fields x, y; method sum), an instance
// of it in G, and a process that waits in it. What makes its layouts not hold is
// come to by no act, so these tests reach for its kernel.
func spoilable(t *testing.T) *Machine {
	t.Helper()
	m, _ := New(3000, 300)
	for _, a := range []api.Act{
		{Kind: api.ActClass, Name: "P", Other: "Object", Names: []string{"x", "y"}}, {Kind: api.ActGlobal, Name: "G"}, {Kind: api.ActMethod, Name: "P", Text: "sum ^x + y"},
		{Kind: api.ActSpawn, Text: "G := P new. [:a | a] value: G sum"}, {Kind: api.ActRun, Number: 1, Fuel: 3},
	} {
		if x := m.Do(a); x.Code != api.OK {
			t.Fatalf("%+v: %+v", a, x)
		}
	}
	if !m.Layouts() {
		t.Fatal("P25.3: the layouts do not hold")
	}
	return m
}

// laid is a new object in the global, with nil in its slots.
func (m *Machine) laid(class, format, n int) int {
	w, _ := m.kernel.Space().Alloc(api.Word(4*class), n, format)
	m.kernel.SetValue(0, w)
	return int(w) / 4
}

// P25.3: an object of another number of slots than its class asks for.
func TestShapes(t *testing.T) {
	const point = 22 // the oop of P
	for _, c := range []struct {
		class, format, n int
		want             bool
	}{
		{point, 0, 2, true}, {point, 0, 1, false}, {point, 0, 3, false}, {point, 0, 0, false},
		{api.Object, 0, 0, true}, {api.Object, 0, 1, false}, {api.Block, 0, 5, false}, {api.Block, 0, 7, false}, {api.Context, 0, 8, false}, {api.Context, 0, 0, false},
		{api.Class, 0, 6, false}, {api.Class, 0, 8, false}, {api.Class, 0, 7, true},
		{api.UndefinedObject, 0, 0, true}, {api.UndefinedObject, 0, 1, false}, {api.TrueClass, 0, 1, false}, {api.FalseClass, 0, 1, false},
		{api.Array, 0, 5, true}, {api.String, 1, 9, true},
	} {
		m := spoilable(t)
		if m.laid(c.class, c.format, c.n); m.Layouts() != c.want {
			t.Errorf("P25.3: with an object of the class %d with %d slots Layouts is %v", c.class, c.n, !c.want)
		}
		// As garbage it makes no difference.
		m.kernel.SetValue(0, 7)
		if !m.Layouts() {
			t.Errorf("P25.3: with garbage the layouts do not hold: %+v", c)
		}
	}
}

// P25.3: contexts and blocks that are come to alone by a process, or by another object.
func TestShapesWithin(t *testing.T) {
	m := spoilable(t)
	block := m.laid(api.Block, 0, 6)
	h := m.kernel.Space().Heap()
	if m.Layouts() {
		t.Error("P25.3: with a block without numbers the layouts hold")
	}
	outer, _ := m.kernel.Value(0)
	array := m.laid(api.Array, 0, 1)
	h.Put(array, 0, outer)
	if m.Layouts() {
		t.Error("P25.3: with such a block in an Array the layouts hold")
	}
	h.Put(array, 0, 7)
	if !m.Layouts() || block == 0 {
		t.Error("P25.3: the layouts do not hold")
	}
}

// P25.3: a method in a dictionary that is not of its class's layout.
func TestFresh(t *testing.T) {
	const point = 22
	m := spoilable(t)
	h := m.kernel.Space().Heap()
	h.Put(point, api.ClassLayout, 3)
	if m.Layouts() {
		t.Error("P25.3: with a stale method the layouts hold")
	}
	h.Put(point, api.ClassLayout, 1)
	oop, e := m.book.At(point, "sum")
	if e != api.OK || !m.Layouts() {
		t.Fatalf("P25.3: the layouts do not hold: %d", e)
	}
	h.Put(oop, api.MethodLayout, 5)
	if m.Layouts() {
		t.Error("P25.3: with a method of a later layout the layouts hold")
	}
	// One that is in no dictionary may be stale.
	h.Put(oop, api.MethodLayout, 1)
	other, f := method.Compile(m.kernel, point, "sum ^y")
	if f.Code != api.OK {
		t.Fatalf("Compile: %+v", f)
	}
	m.book.Put(point, "sum", other)
	h.Put(oop, api.MethodLayout, 7)
	if !m.Layouts() {
		t.Error("P25.3: with a stale method that is in no dictionary the layouts do not hold")
	}
}

// P25.3: a method of any class, the first and the last one too.
func TestFreshEverywhere(t *testing.T) {
	for _, name := range []string{"Object", "UndefinedObject", "Integer", "Array", "Block", "P"} {
		m := spoilable(t)
		m.Do(api.Act{Kind: api.ActMethod, Name: name, Text: "foo"})
		m.Do(api.Act{Kind: api.ActMethod, Name: name, Text: "zork"})
		class, _ := m.kernel.Find(name)
		for _, selector := range []string{"foo", "zork"} {
			oop, e := m.book.At(class, selector)
			if e != api.OK || !m.Layouts() {
				t.Fatalf("P25.3: %s: %d", name, e)
			}
			m.kernel.Space().Heap().Put(oop, api.MethodLayout, 9)
			if m.Layouts() {
				t.Errorf("P25.3: with a stale %s of %s the layouts hold", selector, name)
			}
			m.kernel.Space().Heap().Put(oop, api.MethodLayout, 1)
		}
	}
}

// P25.2: a collect lets garbage go at once, which no act tells.
func TestCollects(t *testing.T) {
	m := spoilable(t)
	m.laid(api.Array, 0, 100)
	m.kernel.SetValue(0, 7)
	before, _ := m.kernel.Space().Heap().Room()
	if x := m.Do(api.Act{Kind: api.ActCollect}); x != (api.Answer{}) {
		t.Fatalf("P25.2: Collect = %+v", x)
	}
	after, _ := m.kernel.Space().Heap().Room()
	if words, _ := m.Room(); after != words || after < before+102 {
		t.Fatalf("P25.2: there is room for %d words, and behind a collect for %d", before, after)
	}
}

// R3: a machine that is a copy of one is none that a call made.
func TestCopy(t *testing.T) {
	m := spoilable(t)
	other := *m
	if x := other.Do(api.Act{Kind: api.ActInspect}); x != (api.Answer{Refusal: api.Refusal{Code: api.ErrNil}}) || other.Layouts() {
		t.Fatalf("R3: %+v", x)
	}
	if !m.Layouts() {
		t.Fatal("R3: the machine that was copied is another one")
	}
}
