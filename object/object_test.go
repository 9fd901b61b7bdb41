package object_test

import (
	"math"
	"testing"

	"kiln/api"
	"kiln/class"
	"kiln/object"
	"kiln/space"
	"kiln/symbol"
)

func booted(t *testing.T) *class.Kernel {
	t.Helper()
	k, e := class.Boot(400, 40)
	if e != api.OK {
		t.Fatalf("Boot = %d", e)
	}
	return k
}

// What is read is what the heap has.
func TestReads(t *testing.T) {
	k := booted(t)
	o := object.Of(k, api.Integer)
	if o.Oop() != 8 || o.Size() != 7 || o.At(api.ClassNumber) != 11 || o.At(api.ClassName) != 18 {
		t.Fatalf("Integer is %d with %d slots: %d, %d", o.Oop(), o.Size(), o.At(api.ClassNumber), o.At(api.ClassName))
	}
	if w, e := o.Word(); w != 32 || e != api.OK {
		t.Fatalf("Word = %d, %d", w, e)
	}
	if up := o.ObjectAt(api.ClassSuper); up.Oop() != 4 || up.TextAt(api.ClassName) != "Object" {
		t.Fatalf("the superclass is %d", up.Oop())
	}
	if o.TextAt(api.ClassName) != "Integer" || o.TextAt(api.ClassSuper) != "" || o.TextAt(api.ClassNumber) != "" {
		t.Fatalf("the texts are %q, %q", o.TextAt(api.ClassName), o.TextAt(api.ClassSuper))
	}
	if o.ObjectAt(api.ClassName).Oop() != 0 || o.ObjectAt(api.ClassNumber).Oop() != 0 {
		t.Fatal("what is no object is one")
	}
}

// What is put is there, and what may not be put is refused.
func TestPut(t *testing.T) {
	k := booted(t)
	o := object.Of(k, api.Root)
	if e := o.Put(1, 7); e != api.OK || o.At(1) != 7 {
		t.Fatalf("Put = %d, %d", e, o.At(1))
	}
	if e := o.Put(1, 0); e != api.ErrWord || o.At(1) != 7 {
		t.Fatalf("Put of no word = %d", e)
	}
	if e := o.Put(8, 7); e != api.ErrSlot {
		t.Fatalf("Put to no slot = %d", e)
	}
	if e := object.Of(k, 21).Put(0, 7); e != api.ErrOop {
		t.Fatalf("Put to no object = %d", e)
	}
}

// Slots and objects that are not there read as zeros.
func TestNothing(t *testing.T) {
	known := booted(t)
	none := new(class.Kernel)
	over, _ := class.Over(new(space.Space), new(symbol.Table))
	for _, k := range []*class.Kernel{nil, none, over, known} {
		for _, oop := range []int{0, -1, 21, 65537, math.MaxInt, math.MinInt} {
			o := object.Of(k, oop)
			if o.Oop() != oop || o.Size() != 0 || o.At(0) != 0 || o.TextAt(0) != "" || o.ObjectAt(0).Oop() != 0 {
				t.Fatalf("the object %d is there", oop)
			}
			if w, e := o.Word(); w != 0 || e == api.OK {
				t.Fatalf("Word of %d = %d, %d", oop, w, e)
			}
			if o.Put(0, 7) == api.OK {
				t.Fatalf("Put to %d is OK", oop)
			}
		}
	}
	if w, e := object.Of(known, 21).Word(); w != 0 || e != api.ErrOop {
		t.Fatalf("Word = %d, %d", w, e)
	}
	o := object.Of(known, 4)
	for _, i := range []int{-1, 7, math.MaxInt, math.MinInt} {
		if o.At(i) != 0 || o.TextAt(i) != "" || o.ObjectAt(i).Oop() != 0 {
			t.Fatalf("the slot %d is there", i)
		}
	}
	known.Symbols().Back(0)
	if o.TextAt(api.ClassName) != "" {
		t.Fatalf("a symbol that is not there is %q", o.TextAt(api.ClassName))
	}
}
