package object_test

import (
	"math"
	"slices"
	"testing"

	"kiln/api"
	"kiln/class"
	"kiln/object"
	"kiln/space"
	"kiln/symbol"
)

func booted(t *testing.T) *class.Kernel {
	t.Helper()
	k, e := class.Boot(400, 40)
	if e != api.OK {
		t.Fatalf("Boot = %d", e)
	}
	return k
}

// What is read is what the heap has.
func TestReads(t *testing.T) {
	k := booted(t)
	o := object.Of(k, api.Integer)
	if o.Oop() != 8 || o.Size() != 7 || o.At(api.ClassNumber) != 11 || o.At(api.ClassName) != 18 {
		t.Fatalf("Integer is %d with %d slots: %d, %d", o.Oop(), o.Size(), o.At(api.ClassNumber), o.At(api.ClassName))
	}
	if c := o.Class(); c.Oop() != api.Class || c.Class().Oop() != api.Class || object.Of(k, api.Nil).Class().Oop() != api.UndefinedObject {
		t.Fatalf("the class is %d", c.Oop())
	}
	if w, e := o.Word(); w != 32 || e != api.OK {
		t.Fatalf("Word = %d, %d", w, e)
	}
	if up := o.ObjectAt(api.ClassSuper); up.Oop() != 4 || up.TextAt(api.ClassName) != "Object" {
		t.Fatalf("the superclass is %d", up.Oop())
	}
	if o.NumberAt(api.ClassNumber) != 5 || o.NumberAt(api.ClassName) != 0 || o.NumberAt(api.ClassSuper) != 0 {
		t.Fatalf("the numbers are %d, %d", o.NumberAt(api.ClassNumber), o.NumberAt(api.ClassName))
	}
	if o.TextAt(api.ClassName) != "Integer" || o.TextAt(api.ClassSuper) != "" || o.TextAt(api.ClassNumber) != "" {
		t.Fatalf("the texts are %q, %q", o.TextAt(api.ClassName), o.TextAt(api.ClassSuper))
	}
	if o.ObjectAt(api.ClassName).Oop() != 0 || o.ObjectAt(api.ClassNumber).Oop() != 0 {
		t.Fatal("what is no object is one")
	}
}

// All slots at one time, and of which class and format they are.
func TestReadsAll(t *testing.T) {
	k := booted(t)
	o := object.Of(k, api.Integer)
	if list := o.Words(); !slices.Equal(list, []api.Word{18, 16, 72, 72, 72, 1, 11}) {
		t.Fatalf("Words = %d", list)
	}
	if list := o.Numbers(); !slices.Equal(list, []int{0, 0, 0, 0, 0, 0, 5}) {
		t.Fatalf("Numbers = %d", list)
	}
	w, _ := k.Space().Alloc(4*api.String, 3, api.FormatBytes)
	for i, b := range []api.Word{97, 255, 0} {
		k.Space().Heap().Put(int(w)/4, i, b)
	}
	s := object.Of(k, int(w)/4)
	if s.Format() != api.FormatBytes || o.Format() != api.FormatWords || object.Of(k, 99).Format() != 0 {
		t.Fatalf("the formats are %d, %d", s.Format(), o.Format())
	}
	if s.ValueAt(0) != 195 || s.ValueAt(1) != 511 || s.ValueAt(2) != 1 || s.ValueAt(3) != 0 || s.ValueAt(-1) != 0 || o.ValueAt(0) != 18 || o.ValueAt(7) != 0 {
		t.Fatalf("the values are %d, %d, %d, %d, %d", s.ValueAt(0), s.ValueAt(1), s.ValueAt(2), s.ValueAt(3), o.ValueAt(0))
	}
	if s.Bytes() != "a\xff\x00" || object.Of(k, api.Empty).Bytes() != "" {
		t.Fatalf("Bytes = %q", s.Bytes())
	}
	for _, c := range []struct {
		o             object.Object
		class, format int
		want          bool
	}{
		{o, api.Class, 0, true}, {o, api.Class, 1, false}, {o, api.Integer, 0, false},
		{s, api.String, 1, true}, {s, api.String, 0, false}, {s, api.Array, 1, false},
		{object.Of(k, api.Empty), api.Array, 0, true}, {object.Of(k, 99), 0, 0, false},
	} {
		if c.o.Is(c.class, c.format) != c.want {
			t.Fatalf("%d is of %d, %d: %v", c.o.Oop(), c.class, c.format, !c.want)
		}
	}
	k.Space().Heap().SetClass(int(w)/4, 3)
	if s.Is(0, 1) || s.Is(1, 1) || s.Class().Oop() != 0 {
		t.Fatal("an object whose class is a number is of one")
	}
}

// What is put is there, and what may not be put is refused.
func TestPut(t *testing.T) {
	k := booted(t)
	o := object.Of(k, api.Root)
	if e := o.Put(1, 7); e != api.OK || o.At(1) != 7 {
		t.Fatalf("Put = %d, %d", e, o.At(1))
	}
	if e := o.Put(1, 0); e != api.ErrWord || o.At(1) != 7 {
		t.Fatalf("Put of no word = %d", e)
	}
	if e := o.Put(8, 7); e != api.ErrSlot {
		t.Fatalf("Put to no slot = %d", e)
	}
	if e := object.Of(k, 21).Put(0, 7); e != api.ErrOop {
		t.Fatalf("Put to no object = %d", e)
	}
}

// Slots and objects that are not there read as zeros.
func TestNothing(t *testing.T) {
	known := booted(t)
	none := new(class.Kernel)
	over, _ := class.Over(new(space.Space), new(symbol.Table))
	for _, k := range []*class.Kernel{nil, none, over, known} {
		for _, oop := range []int{0, -1, 21, 65537, math.MaxInt, math.MinInt} {
			o := object.Of(k, oop)
			if o.Oop() != oop || o.Size() != 0 || o.Format() != 0 || o.At(0) != 0 || o.ValueAt(0) != 0 || o.TextAt(0) != "" || o.ObjectAt(0).Oop() != 0 {
				t.Fatalf("the object %d is there", oop)
			}
			if o.NumberAt(0) != 0 || len(o.Words()) != 0 || len(o.Numbers()) != 0 || o.Bytes() != "" || o.Is(0, 0) || o.Is(4, 0) {
				t.Fatalf("the object %d is there", oop)
			}
			if c := o.Class(); c.Oop() != 0 {
				t.Fatalf("the class of %d is %d", oop, c.Oop())
			}
			if w, e := o.Word(); w != 0 || e == api.OK {
				t.Fatalf("Word of %d = %d, %d", oop, w, e)
			}
			if o.Put(0, 7) == api.OK {
				t.Fatalf("Put to %d is OK", oop)
			}
		}
	}
	if w, e := object.Of(known, 21).Word(); w != 0 || e != api.ErrOop {
		t.Fatalf("Word = %d, %d", w, e)
	}
	o := object.Of(known, 4)
	for _, i := range []int{-1, 7, math.MaxInt, math.MinInt} {
		if o.At(i) != 0 || o.TextAt(i) != "" || o.ObjectAt(i).Oop() != 0 {
			t.Fatalf("the slot %d is there", i)
		}
	}
	known.Symbols().Back(0)
	if o.TextAt(api.ClassName) != "" {
		t.Fatalf("a symbol that is not there is %q", o.TextAt(api.ClassName))
	}
}
