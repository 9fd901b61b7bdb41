package reshape_test

import (
	"strconv"
	"strings"
	"testing"

	"kiln/api"
	"kiln/method"
)

// P21.3: so many instances that half of all oops are theirs, in words that are
// nearly all needed.
func TestManyInstances(t *testing.T) {
	w := bare(t, api.MaxWords, api.MaxOops)
	w.class("P", "Object", "next n")
	w.global("G")
	const count = 32000
	last := null
	oops := make([]int, count)
	for i := range oops {
		oops[i] = w.instance("P", last, num(i))
		last = obj(oops[i])
		w.k.SetValue(0, last)
	}
	own := "n " + numbered("f", 24) + " next"
	w.wantDo("P", own)
	for i, oop := range oops {
		if x := w.slots(oop); len(x) != 26 || x[0] != num(i) || x[5] != null || i > 0 && x[25] != obj(oops[i-1]) {
			t.Fatalf("the instance %d is %d", i, x)
		}
	}
	// For greater bodies there is no room beside these, for small ones there is.
	w.wantNotDo("P", own+" more", refused(api.ErrFull))
	w.wantDo("P", "next")
	for i, oop := range oops[1:] {
		if x := w.slots(oop); len(x) != 1 || x[0] != obj(oops[i]) {
			t.Fatalf("the instance %d is %d", i, x)
		}
	}
}

// P21.2: a class and all classes that there can be below it, in one line and
// beside each other, with methods and instances.
func TestManyClasses(t *testing.T) {
	w := bare(t, api.MaxWords, api.MaxOops)
	w.class("C0", "Object", "a b")
	last := api.MaxClasses - api.KernelClasses
	for i := 1; i < last; i++ {
		super, own := "C"+strconv.Itoa(i-1), ""
		if i >= 30 {
			super = "C" + strconv.Itoa(i%7)
		}
		if i%9 == 0 {
			own = "own" + strconv.Itoa(i)
		}
		w.class("C"+strconv.Itoa(i), super, own)
	}
	var instances []int
	for i := range last {
		name := "C" + strconv.Itoa(i)
		list, _ := w.k.Fields(w.named(name))
		slots := []api.Word{num(i), num(-i)}
		for range list[2:] {
			slots = append(slots, num(5))
		}
		instances = append(instances, w.keep(w.instance(name, slots...)))
		w.method(name, "b ^b")
		w.method(name, "a: n a := n. ^"+list[len(list)-1])
	}
	// Each has two methods, of two objects each, an Array of these, an instance.
	w.k.Space().Heap().Mark(1 + last*6)
	w.wantNotDo("C0", "b new a", refused(api.ErrMarked))
	w.k.Space().Heap().Mark(1 + last*6 + 1)
	w.wantDo("C0", "b new a")
	for i, oop := range instances {
		if x := w.slots(oop); x[0] != num(-i) || x[1] != null || x[2] != num(i) || len(x) > 3 && x[len(x)-1] != num(5) {
			t.Fatalf("the instance of C%d is %d", i, x)
		}
		name := "C" + strconv.Itoa(i)
		if info, m := w.info(name, "b"); info.Code[1] != 0 || method.Stale(w.k, m) {
			t.Fatalf("the method of %s is %+v", name, info)
		}
	}
}

// P21.2: as many methods as a class can have, and as many fields.
func TestManyMethods(t *testing.T) {
	w := bare(t, 200000, 4000)
	w.class("P", "Object", numbered("f", api.MaxFields))
	for i := range api.MaxMethods {
		w.method("P", "m"+strconv.Itoa(i)+" ^f"+strconv.Itoa(i%api.MaxFields))
	}
	list := fields(numbered("f", api.MaxFields))
	var turned []string
	for _, s := range list {
		turned = append([]string{s}, turned...)
	}
	w.wantNotDo("P", strings.Join(turned, " ")+" more", refused(api.ErrFields))
	w.wantDo("P", strings.Join(turned, " "))
	for i := range api.MaxMethods {
		info, _ := w.info("P", "m"+strconv.Itoa(i))
		if info.Code[1] != api.MaxFields-1-i%api.MaxFields || info.Layout != 1 {
			t.Fatalf("the method %d is %+v", i, info)
		}
	}
	// The first by its text: m0, m1, m10, m100 and so on.
	w.wantNotDo("P", strings.Join(turned[:25], " "), api.Refusal{Code: api.ErrUnknown, Class: "P", Selector: "m0", At: 4})
	w.wantNotDo("P", strings.Join(turned[25:], " "), api.Refusal{Code: api.ErrUnknown, Class: "P", Selector: "m10", At: 5})
}
