package class_test

import (
	"fmt"
	"math"
	"reflect"
	"slices"
	"strconv"
	"strings"
	"testing"

	"kiln/api"
	"kiln/class"
	"kiln/space"
	"kiln/symbol"
)

var kernelNames = []string{"Object", "UndefinedObject", "False", "True", "Integer", "Symbol", "String",
	"Array", "Class", "Method", "Block", "Context", "Process", "Message"}

// farInts is ints that are no oop, no number and no place of a small kernel.
var farInts = []int{0, -1, -4, 99, 65536, 65537, 1 << 30, 1 << 31, 1<<32 + 1, math.MaxInt, math.MinInt, math.MaxInt / 2, math.MinInt/2 + 1}

func booted(t *testing.T, words, oops int) *class.Kernel {
	t.Helper()
	k, e := class.Boot(words, oops)
	if k == nil || e != api.OK {
		t.Fatalf("Boot(%d, %d) = %v, %d", words, oops, k, e)
	}
	return k
}

func texts(list ...string) []string { return list }

// many is n field's names, no two the same.
func many(n int) []string {
	list := make([]string, n)
	for i := range list {
		list[i] = "f" + strconv.Itoa(i)
	}
	return list
}

func wantErr(t *testing.T, what string, got, want api.Errno) {
	t.Helper()
	if got != want {
		t.Fatalf("%s = %d, want %d", what, got, want)
	}
}

func wantOop(t *testing.T, what string, oop int, e api.Errno, want int, wantE api.Errno) {
	t.Helper()
	if oop != want || e != wantE {
		t.Fatalf("%s = %d, %d, want %d, %d", what, oop, e, want, wantE)
	}
}

func wantDefine(t *testing.T, k *class.Kernel, name, super string, own []string, want int, wantE api.Errno) {
	t.Helper()
	oop, e := k.Define(name, super, own)
	if len(own) > 40 {
		own = own[:40]
	}
	wantOop(t, fmt.Sprintf("Define(%q, %q, %q)", name, super, own), oop, e, want, wantE)
}

func defined(t *testing.T, k *class.Kernel, name, super string, own ...string) int {
	t.Helper()
	oop, e := k.Define(name, super, own)
	if oop == 0 || e != api.OK {
		t.Fatalf("Define(%q, %q, %q) = %d, %d", name, super, own, oop, e)
	}
	return oop
}

func wantInfo(t *testing.T, k *class.Kernel, oop int, want api.ClassInfo) {
	t.Helper()
	x, e := k.Info(oop)
	if e != api.OK || x.Name != want.Name || x.Super != want.Super || x.Layout != want.Layout || !slices.Equal(x.Own, want.Own) {
		t.Fatalf("Info(%d) = %v, %d, want %v", oop, x, e, want)
	}
}

func wantFields(t *testing.T, k *class.Kernel, oop int, want ...string) {
	t.Helper()
	if list, e := k.Fields(oop); e != api.OK || !slices.Equal(list, want) {
		t.Fatalf("Fields(%d) = %q, %d, want %q", oop, list, e, want)
	}
}

func wantUnder(t *testing.T, k *class.Kernel, oop int, want ...int) {
	t.Helper()
	if list := k.Under(oop); !slices.Equal(list, want) {
		t.Fatalf("Under(%d) = %d, want %d", oop, list, want)
	}
}

func wantValue(t *testing.T, k *class.Kernel, i int, want api.Word, wantE api.Errno) {
	t.Helper()
	if w, e := k.Value(i); w != want || e != wantE {
		t.Fatalf("Value(%d) = %d, %d, want %d, %d", i, w, e, want, wantE)
	}
}

// wantNoClass holds all that an oop can be asked for against one that is no class.
func wantNoClass(t *testing.T, k *class.Kernel, oop int, want api.Errno) {
	t.Helper()
	x, e := k.Info(oop)
	if !reflect.DeepEqual(x, api.ClassInfo{}) || e != want {
		t.Fatalf("Info(%d) = %v, %d, want %d", oop, x, e, want)
	}
	n, e := k.Number(oop)
	wantOop(t, fmt.Sprintf("Number(%d)", oop), n, e, 0, want)
	n, e = k.Super(oop)
	wantOop(t, fmt.Sprintf("Super(%d)", oop), n, e, 0, want)
	n, e = k.Layout(oop)
	wantOop(t, fmt.Sprintf("Layout(%d)", oop), n, e, 0, want)
	list, e := k.Fields(oop)
	if len(list) != 0 || e != want {
		t.Fatalf("Fields(%d) = %q, %d, want %d", oop, list, e, want)
	}
	wantUnder(t, k, oop)
}

// all is all that there is to be seen of a kernel, but for what is garbage.
func all(k *class.Kernel) string {
	var b strings.Builder
	for n := range k.Count() + 2 {
		oop, e := k.Numbered(n)
		x, f := k.Info(oop)
		list, g := k.Fields(oop)
		up, h := k.Super(oop)
		fmt.Fprintln(&b, n, oop, e, x, f, list, g, up, h, k.Under(oop))
	}
	for i, name := range k.Globals() {
		w, e := k.Value(i)
		fmt.Fprintln(&b, name, w, e)
	}
	words, oops := k.Space().Room()
	fmt.Fprintln(&b, k.Symbols().All(), words, oops, k.Space().Kept(), k.Space().Crowned())
	return b.String()
}

// The chapter's examples, in their order.
func TestExampleBoot(t *testing.T) {
	for _, c := range [][2]int{{159, 20}, {160, 19}} {
		if k, e := class.Boot(c[0], c[1]); k != nil || e != api.ErrFull {
			t.Fatalf("Boot(%d, %d) = %v, %d", c[0], c[1], k, e)
		}
	}
	k := booted(t, 160, 20)
	if words, oops := k.Space().Room(); words != 0 || oops != 0 {
		t.Fatalf("Room = %d, %d", words, oops)
	}
	wantDefine(t, k, "A", "Object", nil, 0, api.ErrFull)
	k = booted(t, 1000, 100)
	if k.Count() != 14 {
		t.Fatalf("Count = %d", k.Count())
	}
	oop, e := k.Find("Object")
	wantOop(t, "Find(Object)", oop, e, 4, api.OK)
	oop, e = k.Numbered(14)
	wantOop(t, "Numbered(14)", oop, e, 17, api.OK)
	oop, e = k.Numbered(15)
	wantOop(t, "Numbered(15)", oop, e, 0, api.ErrClass)
	wantInfo(t, k, 4, api.ClassInfo{Name: "Object"})
	oop, e = k.Super(5)
	wantOop(t, "Super(5)", oop, e, 4, api.OK)
	wantUnder(t, k, 4, 1, 2, 3, 4, 5, 6, 7, 8, 9, 10, 11, 12, 13, 14)
}

func TestExampleDefine(t *testing.T) {
	k := booted(t, 1000, 100)
	wantDefine(t, k, "Point", "Object", texts("x", "y"), 22, api.OK)
	wantFields(t, k, 22, "x", "y")
	wantDefine(t, k, "Point3", "Point", texts("z"), 25, api.OK)
	wantFields(t, k, 25, "x", "y", "z")
	wantUnder(t, k, 22, 15, 16)
	wantDefine(t, k, "point", "Object", nil, 0, api.ErrName)
	wantDefine(t, k, "Object", "Object", nil, 0, api.ErrThere)
	wantDefine(t, k, "Q", "Nope", nil, 0, api.ErrClass)
	wantDefine(t, k, "Q", "Integer", nil, 0, api.ErrKernel)
	wantDefine(t, k, "Q", "Point", texts("x"), 0, api.ErrInherited)
	wantDefine(t, k, "Q", "Point", texts("a", "a"), 0, api.ErrDouble)
	for _, s := range []string{"self", "X", ""} {
		wantDefine(t, k, "Q", "Point", texts(s), 0, api.ErrName)
	}
	wantErr(t, "Global(G)", k.Global("G"), api.OK)
	wantErr(t, "Global(G)", k.Global("G"), api.ErrThere)
	wantErr(t, "Global(Point)", k.Global("Point"), api.ErrThere)
	wantErr(t, "Global(g)", k.Global("g"), api.ErrName)
	if list := k.Globals(); !slices.Equal(list, texts("G")) {
		t.Fatalf("Globals = %q", list)
	}
	wantValue(t, k, 0, 4, api.OK)
	wantErr(t, "SetValue(0, 3)", k.SetValue(0, 3), api.OK)
	wantValue(t, k, 0, 3, api.OK)
	wantValue(t, k, 1, 0, api.ErrArg)
}

func TestExampleOfAndMark(t *testing.T) {
	k := booted(t, 1000, 100)
	for _, c := range []struct {
		w    api.Word
		want int
		e    api.Errno
	}{{3, 8, 0}, {2, 9, 0}, {4, 5, 0}, {0, 0, api.ErrWord}, {4 * 99, 0, api.ErrOop}} {
		oop, e := k.Of(c.w)
		wantOop(t, fmt.Sprintf("Of(%d)", c.w), oop, e, c.want, c.e)
	}
	k.Space().Heap().Mark(1)
	wantDefine(t, k, "R", "Object", texts("a"), 0, api.ErrMarked)
	for _, s := range []string{"R", "a"} {
		if _, there := k.Symbols().Find(s); there {
			t.Fatalf("the symbol %s is there", s)
		}
	}
	defined(t, k, "R", "Object", "a")
}

// P13.1: every object of the table, slot by slot, in the order of their oops.
func TestBootObjects(t *testing.T) {
	var want []api.HeapObject
	add := func(class api.Word, slots ...api.Word) {
		want = append(want, api.HeapObject{Oop: len(want) + 1, Class: class, Slots: slots})
	}
	add(20)
	add(24)
	add(28)
	for i := range api.Word(14) {
		super := api.Word(16)
		if i == 0 {
			super = 4
		}
		add(48, 4*i+2, super, 72, 72, 72, 1, 2*i+3)
	}
	add(44)
	add(44, 80, 72, 72, 72, 4, 8, 12, 4)
	add(44, 16, 20, 24, 28, 32, 36, 40, 44, 48, 52, 56, 60, 64, 68)
	for _, c := range [][2]int{{160, 20}, {161, 20}, {160, 21}, {1 << 20, 65536}} {
		k := booted(t, c[0], c[1])
		s := k.Space().Heap().State()
		if s.Words != c[0] || s.Oops != c[1] || s.Mark != 0 || len(s.Objects) != 20 {
			t.Fatalf("the state of Boot(%d, %d): %v", c[0], c[1], s)
		}
		for i, o := range s.Objects {
			if o.Oop != want[i].Oop || o.Class != want[i].Class || o.Format != 0 || !slices.Equal(o.Slots, want[i].Slots) {
				t.Fatalf("the object %v, want %v", o, want[i])
			}
		}
		if k.Space().Crowned() != 19 || len(k.Space().Kept()) != 0 || !slices.Equal(k.Symbols().All(), kernelNames) {
			t.Fatalf("the root %d, kept %d, symbols %q", k.Space().Crowned(), k.Space().Kept(), k.Symbols().All())
		}
		if words, oops := k.Space().Room(); words != c[0]-160 || oops != c[1]-20 {
			t.Fatalf("Room = %d, %d", words, oops)
		}
	}
}

// P13.1: the error of space.New; ErrFull wherever the room ends.
func TestBootRefused(t *testing.T) {
	for _, c := range [][2]int{{-1, 20}, {160, -1}, {1<<20 + 1, 20}, {160, 65537}, {-1, -1}, {math.MinInt, 20}, {160, math.MaxInt}} {
		if k, e := class.Boot(c[0], c[1]); k != nil || e != api.ErrArg {
			t.Fatalf("Boot(%d, %d) = %v, %d", c[0], c[1], k, e)
		}
	}
	for words := range 160 {
		if k, e := class.Boot(words, 40); k != nil || e != api.ErrFull {
			t.Fatalf("Boot(%d, 40) = %v, %d", words, k, e)
		}
	}
	for oops := range 20 {
		if k, e := class.Boot(400, oops); k != nil || e != api.ErrFull {
			t.Fatalf("Boot(400, %d) = %v, %d", oops, k, e)
		}
	}
}

// P13.1: the table takes all symbols that there may be.
func TestBootSymbols(t *testing.T) {
	k := booted(t, 1000, 100)
	for i := range api.MaxSymbols - 14 {
		if n, e := k.Symbols().Add("s" + strconv.Itoa(i)); n != i+14 || e != api.OK {
			t.Fatalf("Add = %d, %d", n, e)
		}
	}
	_, e := k.Symbols().Add("more")
	wantErr(t, "Add", e, api.ErrSymbols)
}

// P13.2: no space, no table; a kernel over what another one left is as that one, and both go on as one.
func TestOver(t *testing.T) {
	k := booted(t, 2000, 200)
	for i, k := range []struct {
		s *space.Space
		t *symbol.Table
	}{{nil, k.Symbols()}, {k.Space(), nil}, {nil, nil}} {
		if x, e := class.Over(k.s, k.t); x != nil || e != api.ErrNil {
			t.Fatalf("%d: Over = %v, %d", i, x, e)
		}
	}
	p := defined(t, k, "P", "Object", "x")
	k.Global("G")
	x, e := class.Over(k.Space(), k.Symbols())
	if x == nil || e != api.OK || x.Space() != k.Space() || x.Symbols() != k.Symbols() {
		t.Fatalf("Over = %v, %d", x, e)
	}
	if all(x) != all(k) {
		t.Fatalf("%s, want %s", all(x), all(k))
	}
	q := defined(t, x, "Q", "P", "y")
	x.Global("H")
	x.SetValue(1, 7)
	wantFields(t, k, q, "x", "y")
	wantUnder(t, k, p, 15, 16)
	wantValue(t, k, 1, 7, api.OK)
	defined(t, k, "R", "Q", "z")
	if all(x) != all(k) {
		t.Fatalf("%s, want %s", all(x), all(k))
	}
	loaded, e := space.Load(k.Space().Heap().State(), k.Space().Crowned())
	wantErr(t, "space.Load", e, api.OK)
	table, _ := symbol.Load(k.Symbols().All(), api.MaxSymbols)
	y, _ := class.Over(loaded, table)
	if all(y) != all(k) {
		t.Fatalf("%s, want %s", all(y), all(k))
	}
}

// P13.3: what a class's slots hold now is what is answered, and a reshape may write there.
func TestLooking(t *testing.T) {
	k := booted(t, 2000, 200)
	p := defined(t, k, "P", "Object", "x", "y")
	q := defined(t, k, "Q", "P")
	r := defined(t, k, "R", "Q", "z")
	o := defined(t, k, "O", "Object", "x")
	s := defined(t, k, "S", "P", "s")
	wantInfo(t, k, p, api.ClassInfo{Name: "P", Super: "Object", Own: texts("x", "y")})
	wantInfo(t, k, q, api.ClassInfo{Name: "Q", Super: "P"})
	wantInfo(t, k, r, api.ClassInfo{Name: "R", Super: "Q", Own: texts("z")})
	wantFields(t, k, q, "x", "y")
	wantFields(t, k, r, "x", "y", "z")
	wantFields(t, k, s, "x", "y", "s")
	wantFields(t, k, o, "x")
	wantUnder(t, k, p, 15, 16, 17, 19)
	wantUnder(t, k, q, 16, 17)
	wantUnder(t, k, r, 17)
	wantUnder(t, k, o, 18)
	wantUnder(t, k, 5, 2)
	if list := k.Under(4); len(list) != 19 || !slices.IsSorted(list) {
		t.Fatalf("Under(4) = %d", list)
	}
	h := k.Space().Heap()
	h.Put(q, api.ClassLayout, 2*api.MaxCount+1)
	h.Put(p, api.ClassOwn, 4*api.Empty)
	n, e := k.Layout(q)
	wantOop(t, "Layout", n, e, api.MaxCount, api.OK)
	wantInfo(t, k, q, api.ClassInfo{Name: "Q", Super: "P", Layout: api.MaxCount})
	wantFields(t, k, r, "z")
	up, e := k.Super(r)
	wantOop(t, "Super", up, e, q, api.OK)
	up, e = k.Super(4)
	wantOop(t, "Super(4)", up, e, 0, api.OK)
	n, e = k.Number(s)
	wantOop(t, "Number", n, e, 19, api.OK)
}

// P13.3: names that no class has, though a symbol or a global may be called so.
func TestFind(t *testing.T) {
	k := booted(t, 1000, 100)
	k.Symbols().Add("at:")
	k.Global("G")
	for _, s := range []string{"", "object", "Objec", "Object ", "Objects", "at:", "G", strings.Repeat("A", 1<<16)} {
		oop, e := k.Find(s)
		wantOop(t, "Find("+s+")", oop, e, 0, api.ErrClass)
	}
	for i, s := range kernelNames {
		oop, e := k.Find(s)
		wantOop(t, "Find("+s+")", oop, e, 4+i, api.OK)
		oop, e = k.Numbered(i + 1)
		wantOop(t, "Numbered", oop, e, 4+i, api.OK)
	}
	for _, n := range append(slices.Clone(farInts), 15) {
		oop, e := k.Numbered(n)
		wantOop(t, fmt.Sprintf("Numbered(%d)", n), oop, e, 0, api.ErrClass)
	}
}

// P13.3: oops that are no class's: all others of the kernel's objects, things
// that look like classes, a class that was refused.
func TestNoClass(t *testing.T) {
	k := booted(t, 1000, 100)
	for _, oop := range append(slices.Clone(farInts), 1, 2, 3, 18, 19, 20, 21) {
		wantNoClass(t, k, oop, api.ErrClass)
	}
	h := k.Space().Heap()
	h.Alloc(4*api.Class, 7, 0)
	for i := range 7 {
		w, _ := h.At(8, i)
		h.Put(21, i, w)
	}
	wantNoClass(t, k, 21, api.ErrClass)
	h.Put(21, api.ClassNumber, 2*15+1)
	wantNoClass(t, k, 21, api.ErrClass)
	h.Alloc(4*api.String, 7, 1)
	h.Put(22, api.ClassNumber, 3)
	wantNoClass(t, k, 22, api.ErrClass)
	h.Mark(2)
	wantDefine(t, k, "P", "Object", nil, 0, api.ErrMarked)
	wantNoClass(t, k, 23, api.ErrClass)
}

// P13.3: the class of every word.
func TestOf(t *testing.T) {
	k := booted(t, 1000, 100)
	for _, w := range []api.Word{1, -1, 3, 1<<31 - 1, -1<<31 + 1} {
		oop, e := k.Of(w)
		wantOop(t, fmt.Sprintf("Of(%d)", w), oop, e, api.Integer, api.OK)
	}
	// Also of a symbol whose number the table has not.
	for _, w := range []api.Word{2, 6, 16382} {
		oop, e := k.Of(w)
		wantOop(t, fmt.Sprintf("Of(%d)", w), oop, e, api.Symbol, api.OK)
	}
	for _, w := range []api.Word{0, -2, -4, 16386, 262148, 1<<31 + 1, -1<<31 - 1, math.MaxInt, math.MinInt} {
		oop, e := k.Of(w)
		wantOop(t, fmt.Sprintf("Of(%d)", w), oop, e, 0, api.ErrWord)
	}
	classes := []int{5, 6, 7, 12, 12, 12, 12, 12, 12, 12, 12, 12, 12, 12, 12, 12, 12, 11, 11, 11}
	for i, want := range classes {
		oop, e := k.Of(api.Word(4 * (i + 1)))
		wantOop(t, fmt.Sprintf("Of the object %d", i+1), oop, e, want, api.OK)
	}
	for _, w := range []api.Word{84, 4 * 100, 4 * 101, 262144} {
		oop, e := k.Of(w)
		wantOop(t, fmt.Sprintf("Of(%d)", w), oop, e, 0, api.ErrOop)
	}
	p := defined(t, k, "P", "Object", "x")
	w, _ := k.Space().Alloc(api.Word(4*p), 1, 0)
	oop, e := k.Of(w)
	wantOop(t, "Of an instance", oop, e, p, api.OK)
}

// P13.4: each error ahead of all that come behind it.
func TestDefineOrder(t *testing.T) {
	k := booted(t, 4000, 300)
	defined(t, k, "P", "Object", "x", "y")
	defined(t, k, "W", "Object", many(32)...)
	k.Global("G")
	bad := texts("x", "x", "X")
	for _, c := range []struct {
		name, super string
		own         []string
		e           api.Errno
	}{
		{"p", "Nope", bad, api.ErrName}, {"", "Nope", bad, api.ErrName}, {"P ", "Nope", bad, api.ErrName},
		{strings.Repeat("P", 33), "Nope", bad, api.ErrName}, {"P:", "Integer", bad, api.ErrName},
		{"P", "Nope", bad, api.ErrThere}, {"G", "Nope", bad, api.ErrThere}, {"Message", "Integer", bad, api.ErrThere},
		{"N", "Nope", bad, api.ErrClass}, {"N", "", bad, api.ErrClass}, {"N", "G", bad, api.ErrClass},
		{"N", "N", bad, api.ErrClass}, {"N", "object", bad, api.ErrClass},
		{"N", "Integer", bad, api.ErrKernel}, {"N", "Class", bad, api.ErrKernel},
		{"N", "P", texts("a", "a", "x", "X"), api.ErrDouble}, {"N", "P", texts("a", "x", "a", "X"), api.ErrInherited},
		{"N", "P", texts("a", "X", "x", "a"), api.ErrName}, {"N", "P", texts("x", "x"), api.ErrInherited},
		{"N", "P", texts("a", "b", "self"), api.ErrName}, {"N", "P", texts("a", "b", "y"), api.ErrInherited},
		{"N", "P", texts("a", "b", "a"), api.ErrDouble}, {"N", "Object", texts("a", "b", "b"), api.ErrDouble},
		{"N", "P", append(many(40), "X"), api.ErrName}, {"N", "P", append(many(40), "f0"), api.ErrDouble},
		{"N", "P", append(many(40), "y"), api.ErrInherited}, {"N", "W", texts("f31"), api.ErrInherited},
		{"N", "P", many(31), api.ErrFields}, {"N", "Object", many(33), api.ErrFields}, {"N", "W", texts("a"), api.ErrFields},
		{"N", "Object", many(100000), api.ErrFields},
	} {
		wantDefine(t, k, c.name, c.super, c.own, 0, c.e)
	}
	for _, name := range kernelNames[1:] {
		wantDefine(t, k, "N", name, nil, 0, api.ErrKernel)
	}
	defined(t, k, "N", "P", many(30)...)
	defined(t, k, "M", "W")
	defined(t, k, "O", "Object", many(32)...)
	defined(t, k, strings.Repeat("P", 32), "N")
}

// P13.4: a class with no own names, one with some: what each slot holds.
func TestDefinedObjects(t *testing.T) {
	k := booted(t, 1000, 100)
	wantDefine(t, k, "P", "Object", texts("x", "y"), 22, api.OK)
	wantDefine(t, k, "Q", "P", nil, 24, api.OK)
	objects := map[int]api.HeapObject{}
	for _, o := range k.Space().Heap().State().Objects {
		objects[o.Oop] = o
	}
	for _, c := range []struct {
		oop   int
		class api.Word
		slots []api.Word
	}{
		{21, 44, []api.Word{4*15 + 2, 4*16 + 2}},
		{22, 48, []api.Word{4*14 + 2, 16, 84, 72, 72, 1, 31}},
		{24, 48, []api.Word{4*17 + 2, 88, 72, 72, 72, 1, 33}},
		{25, 44, []api.Word{16, 20, 24, 28, 32, 36, 40, 44, 48, 52, 56, 60, 64, 68, 88, 96}},
		{19, 44, []api.Word{100, 72, 72, 72, 4, 8, 12, 4}},
	} {
		o := objects[c.oop]
		if o.Class != c.class || o.Format != 0 || !slices.Equal(o.Slots, c.slots) {
			t.Fatalf("the object %v, want %v", o, c)
		}
	}
	if want := append(slices.Clone(kernelNames), "P", "x", "y", "Q"); !slices.Equal(k.Symbols().All(), want) {
		t.Fatalf("the symbols %q", k.Symbols().All())
	}
}

// M3: the allocations one by one, each filled ahead of the next.
func TestDefineAllocations(t *testing.T) {
	own := api.HeapObject{Oop: 21, Class: 44, Slots: []api.Word{4*15 + 2}}
	made := api.HeapObject{Oop: 22, Class: 48, Slots: []api.Word{4*14 + 2, 16, 84, 72, 72, 1, 31}}
	for mark, want := range [][]api.HeapObject{1: nil, 2: {own}, 3: {own, made}} {
		if mark == 0 {
			continue
		}
		k := booted(t, 1000, 100)
		was := all(k)
		k.Space().Heap().Mark(mark)
		wantDefine(t, k, "P", "Object", texts("x"), 0, api.ErrMarked)
		if list := k.Space().Heap().State().Objects[20:]; fmt.Sprint(list) != fmt.Sprint(want) {
			t.Fatalf("behind the mark %d: %v, want %v", mark, list, want)
		}
		if k.Space().Heap().Marked() != 0 || all(k) != was {
			t.Fatalf("behind the mark %d: %s, want %s", mark, all(k), was)
		}
	}
	k := booted(t, 1000, 100)
	k.Space().Heap().Mark(4)
	wantDefine(t, k, "P", "Object", texts("x"), 22, api.OK)
	wantDefine(t, k, "Q", "P", nil, 0, api.ErrMarked)
	k.Space().Heap().Mark(3)
	wantDefine(t, k, "Q", "P", nil, 24, api.OK)
	if n := k.Space().Heap().Marked(); n != 1 {
		t.Fatalf("Marked = %d", n)
	}
	wantErr(t, "Global", k.Global("G"), api.ErrMarked)
	k.Space().Heap().Mark(2)
	wantErr(t, "Global", k.Global("G"), api.OK)
	if n := k.Space().Heap().Marked(); n != 1 {
		t.Fatalf("Marked = %d", n)
	}
}

// P13.6: a refusal for any other reason gives the mark's count back.
func TestMarkIsGivenBack(t *testing.T) {
	for words := 160; words < 160+3+9+17; words++ {
		k := booted(t, words, 100)
		was := all(k)
		k.Space().Heap().Mark(4)
		wantDefine(t, k, "P", "Object", texts("x"), 0, api.ErrFull)
		if n := k.Space().Heap().Marked(); n != 4 || all(k) != was {
			t.Fatalf("Marked = %d; %s, want %s", n, all(k), was)
		}
		wantDefine(t, k, "p", "Object", texts("x"), 0, api.ErrName)
		if n := k.Space().Heap().Marked(); n != 4 {
			t.Fatalf("Marked = %d", n)
		}
	}
	for oops := 20; oops < 23; oops++ {
		k := booted(t, 1000, oops)
		k.Space().Heap().Mark(4)
		wantDefine(t, k, "P", "Object", texts("x"), 0, api.ErrFull)
		if n := k.Space().Heap().Marked(); n != 4 {
			t.Fatalf("Marked = %d", n)
		}
	}
	k := booted(t, 160+3+9+17, 23)
	k.Space().Heap().Mark(4)
	wantDefine(t, k, "P", "Object", texts("x"), 22, api.OK)
	if n := k.Space().Heap().Marked(); n != 1 {
		t.Fatalf("Marked = %d", n)
	}
}

// P13.4, P13.5: what is there is what is live, and not what lies about; and
// what an act made lives through the collections that its own allocations bring.
func TestCollectsMeanwhile(t *testing.T) {
	for _, own := range [][]string{nil, texts("x"), many(32)} {
		need := 9 + 17
		if len(own) > 0 {
			need += 2 + len(own)
		}
		for garbage := 2; garbage < need+4; garbage++ {
			k := booted(t, 160+need, 24)
			k.Space().Alloc(4, min(garbage, need)-2, 0)
			p := defined(t, k, "P", "Object", own...)
			wantInfo(t, k, p, api.ClassInfo{Name: "P", Super: "Object", Own: own})
			k.Space().Collect()
			wantInfo(t, k, p, api.ClassInfo{Name: "P", Super: "Object", Own: own})
			wantUnder(t, k, 4, 1, 2, 3, 4, 5, 6, 7, 8, 9, 10, 11, 12, 13, 14, 15)
			k = booted(t, 160+need-1, 24)
			k.Space().Alloc(4, min(garbage, need-1)-2, 0)
			was := all(k)
			wantDefine(t, k, "P", "Object", own, 0, api.ErrFull)
			if all(k) != was {
				t.Fatalf("%s, want %s", all(k), was)
			}
		}
	}
	k := booted(t, 160+4+6, 23)
	wantErr(t, "Global", k.Global("G"), api.OK)
	k.SetValue(0, 9)
	k.Space().Alloc(4, 4, 0)
	wantErr(t, "Global", k.Global("H"), api.OK)
	wantValue(t, k, 0, 9, api.OK)
	was := all(k)
	wantErr(t, "Global", k.Global("I"), api.ErrFull)
	if all(k) != was {
		t.Fatalf("%s, want %s", all(k), was)
	}
}

// P13.4: 256 classes; the error's place in the order.
func TestDefineCount(t *testing.T) {
	k := booted(t, 1<<16, 2000)
	k.Global("G")
	super := "Object"
	for i := 15; i <= api.MaxClasses; i++ {
		name := "C" + strconv.Itoa(i)
		oop := defined(t, k, name, super)
		n, e := k.Number(oop)
		wantOop(t, "Number", n, e, i, api.OK)
		super = name
	}
	if k.Count() != 256 {
		t.Fatalf("Count = %d", k.Count())
	}
	oop, _ := k.Find("C15")
	if list := k.Under(oop); len(list) != 242 || list[0] != 15 || list[241] != 256 {
		t.Fatalf("Under = %d", list)
	}
	for i := range api.MaxSymbols {
		k.Symbols().Add("s" + strconv.Itoa(i))
	}
	k.Space().Heap().Mark(1)
	wantDefine(t, k, "n", "Object", nil, 0, api.ErrName)
	wantDefine(t, k, "C256", "Object", nil, 0, api.ErrThere)
	wantDefine(t, k, "N", "C257", nil, 0, api.ErrClass)
	wantDefine(t, k, "N", "True", nil, 0, api.ErrKernel)
	wantDefine(t, k, "N", "C256", texts("x", "x"), 0, api.ErrDouble)
	wantDefine(t, k, "N", "C256", many(33), 0, api.ErrFields)
	wantDefine(t, k, "N", "C256", texts("x"), 0, api.ErrCount)
	if k.Space().Heap().Marked() != 1 {
		t.Fatalf("Marked = %d", k.Space().Heap().Marked())
	}
}

// P13.4: fields along the longest way up that there may be.
func TestFieldsOfManyClasses(t *testing.T) {
	k := booted(t, 1<<16, 2000)
	super := "Object"
	fields := many(32)
	for i := range 242 {
		name := "C" + strconv.Itoa(i)
		var own []string
		if i%7 == 0 && i/7 < 32 {
			own = fields[i/7 : i/7+1]
		}
		oop := defined(t, k, name, super, own...)
		wantFields(t, k, oop, fields[:min(32, i/7+1)]...)
		super = name
	}
}

// filled is a kernel with room for so many more symbols.
func filled(t *testing.T, left, words int) *class.Kernel {
	t.Helper()
	k := booted(t, words, 200)
	k.Symbols().Add("a")
	k.Symbols().Add("N")
	for i := 0; k.Symbols().Count() < api.MaxSymbols-left; i++ {
		k.Symbols().Add("s" + strconv.Itoa(i))
	}
	return k
}

// P13.4, P13.5: symbols that have no room are told ahead of the memory's; those that are there need none.
func TestSymbolsFull(t *testing.T) {
	for _, words := range []int{160, 1000} {
		k := filled(t, 2, words)
		k.Space().Heap().Mark(1)
		was := all(k)
		wantDefine(t, k, "P", "Object", texts("x", "y"), 0, api.ErrSymbols)
		wantDefine(t, k, "N", "Object", texts("x", "a", "y", "z"), 0, api.ErrSymbols)
		if all(k) != was || k.Space().Heap().Marked() != 1 {
			t.Fatalf("%s, want %s", all(k), was)
		}
		k = filled(t, 0, words)
		was = all(k)
		wantErr(t, "Global", k.Global("P"), api.ErrSymbols)
		wantDefine(t, k, "P", "Object", nil, 0, api.ErrSymbols)
		wantDefine(t, k, "N", "Object", texts("x"), 0, api.ErrSymbols)
		if all(k) != was {
			t.Fatalf("%s, want %s", all(k), was)
		}
	}
	k := filled(t, 0, 1000)
	defined(t, k, "N", "Object", "a", "s1", "s3")
	k = filled(t, 0, 1000)
	wantErr(t, "Global", k.Global("N"), api.OK)
	k = filled(t, 2, 1000)
	defined(t, k, "P", "Object", "a", "x")
}

// P13.5: 256 globals; the error's place in the order.
func TestGlobalCount(t *testing.T) {
	k := booted(t, 1<<16, 2000)
	var names []string
	for i := range api.MaxGlobals {
		names = append(names, "G"+strconv.Itoa(i))
		wantErr(t, "Global", k.Global(names[i]), api.OK)
		wantValue(t, k, i, 4, api.OK)
		wantErr(t, "SetValue", k.SetValue(i, api.Word(2*i+1)), api.OK)
		wantValue(t, k, i+1, 0, api.ErrArg)
	}
	for i := range names {
		wantValue(t, k, i, api.Word(2*i+1), api.OK)
	}
	if !slices.Equal(k.Globals(), names) {
		t.Fatalf("Globals = %q", k.Globals())
	}
	for i := range api.MaxSymbols {
		k.Symbols().Add("s" + strconv.Itoa(i))
	}
	wantErr(t, "Global", k.Global("g"), api.ErrName)
	wantErr(t, "Global", k.Global("G255"), api.ErrThere)
	wantErr(t, "Global", k.Global("Array"), api.ErrThere)
	wantErr(t, "Global", k.Global("New"), api.ErrCount)
	wantDefine(t, k, "G0", "Object", nil, 0, api.ErrThere)
}

// P13.5: names that are none; places and words that are none; the order of these.
func TestGlobals(t *testing.T) {
	k := booted(t, 1000, 100)
	for _, s := range []string{"", "g", "G ", "G:", "\xc3\x84", "9", strings.Repeat("G", 33), "self"} {
		wantErr(t, "Global("+s+")", k.Global(s), api.ErrName)
	}
	if list := k.Globals(); len(list) != 0 {
		t.Fatalf("Globals = %q", list)
	}
	wantValue(t, k, 0, 0, api.ErrArg)
	wantErr(t, "SetValue", k.SetValue(0, 0), api.ErrArg)
	for _, s := range []string{"G", strings.Repeat("H", 32), "Nil"} {
		wantErr(t, "Global("+s+")", k.Global(s), api.OK)
	}
	for _, i := range append(slices.DeleteFunc(slices.Clone(farInts), func(i int) bool { return i == 0 }), 3) {
		wantValue(t, k, i, 0, api.ErrArg)
		wantErr(t, "SetValue", k.SetValue(i, 3), api.ErrArg)
		wantErr(t, "SetValue", k.SetValue(i, 0), api.ErrArg)
	}
	for _, w := range []api.Word{0, -2, -4, 16386, 262148, 1<<31 + 1, math.MaxInt, math.MinInt} {
		wantErr(t, "SetValue", k.SetValue(1, w), api.ErrWord)
		wantValue(t, k, 1, 4, api.OK)
	}
	for _, w := range []api.Word{1, -1<<31 + 1, 16382, 8, 262144} {
		wantErr(t, "SetValue", k.SetValue(1, w), api.OK)
		wantValue(t, k, 1, w, api.OK)
		wantValue(t, k, 0, 4, api.OK)
		wantValue(t, k, 2, 4, api.OK)
	}
	// The empty Array is all empty lists' own, and stays empty.
	if n, _, _ := k.Space().Heap().Size(api.Empty); n != 0 {
		t.Fatalf("the empty Array has %d slots", n)
	}
}

// P13.4, P13.5: a symbol that is there is no class and no global yet.
func TestSymbolsAreNoNames(t *testing.T) {
	k := booted(t, 1000, 100)
	k.Global("G")
	defined(t, k, "P", "Object", "x")
	for _, s := range []string{"Q", "H", "y"} {
		k.Symbols().Add(s)
	}
	count := k.Symbols().Count()
	defined(t, k, "Q", "P", "y")
	wantErr(t, "Global(H)", k.Global("H"), api.OK)
	if !slices.Equal(k.Globals(), texts("G", "H")) || k.Symbols().Count() != count {
		t.Fatalf("Globals = %q, %d symbols", k.Globals(), k.Symbols().Count())
	}
}

// P13.5: what a global holds lives.
func TestGlobalsKeep(t *testing.T) {
	k := booted(t, 1000, 100)
	k.Global("G")
	k.Global("H")
	w, _ := k.Space().Alloc(4*api.Array, 2, 0)
	k.SetValue(1, w)
	k.Global("I")
	k.Space().Collect()
	oop, e := k.Of(w)
	wantOop(t, "Of", oop, e, api.Array, api.OK)
	wantValue(t, k, 1, w, api.OK)
}

// P13.6: each call leaves on the space's stack what was there.
func TestStack(t *testing.T) {
	k := booted(t, 400, 40)
	k.Space().Keep(7, 76, 7)
	for i := range 12 {
		name := "A" + strconv.Itoa(i)
		k.Define(name, "Object", texts("x"))
		k.Global("G" + name)
		k.Define(name, "Object", texts("x"))
		k.Define("P", "Object", many(33))
		k.Find(name)
		k.Fields(22)
		if list := k.Space().Kept(); !slices.Equal(list, []api.Word{7, 76, 7}) {
			t.Fatalf("kept is %d", list)
		}
	}
}

// M2: what a call answers where the stack has no room is not said, but it ends, and the stack stays.
func TestStackIsFull(t *testing.T) {
	k := booted(t, 4000, 400)
	full := slices.Repeat([]api.Word{7}, api.MaxKept)
	k.Space().Keep(full...)
	k.Define("P", "Object", texts("x"))
	k.Global("G")
	if len(k.Space().Kept()) != api.MaxKept {
		t.Fatalf("%d are kept", len(k.Space().Kept()))
	}
}

// P13.4: between Begin and its end nothing is collected.
func TestBracket(t *testing.T) {
	k := booted(t, 160+29, 40)
	k.Space().Begin()
	k.Space().Alloc(4, 0, 0)
	was := all(k)
	wantDefine(t, k, "P", "Object", texts("x"), 0, api.ErrFull)
	if all(k) != was {
		t.Fatalf("%s, want %s", all(k), was)
	}
	wantErr(t, "Abort", k.Space().Abort(), api.OK)
	wantDefine(t, k, "P", "Object", texts("x"), 22, api.OK)
}

// P13.7: a kernel that is not there, or that no call made.
func TestNoKernel(t *testing.T) {
	copied := *booted(t, 1000, 100)
	for _, k := range []*class.Kernel{nil, {}, &copied} {
		if k.Space() != nil || k.Symbols() != nil || k.Count() != 0 || len(k.Globals()) != 0 {
			t.Fatal("there is something")
		}
		oop, e := k.Find("Object")
		wantOop(t, "Find", oop, e, 0, api.ErrNil)
		oop, e = k.Numbered(1)
		wantOop(t, "Numbered", oop, e, 0, api.ErrNil)
		oop, e = k.Of(3)
		wantOop(t, "Of", oop, e, 0, api.ErrNil)
		oop, e = k.Of(0)
		wantOop(t, "Of", oop, e, 0, api.ErrNil)
		wantNoClass(t, k, 4, api.ErrNil)
		wantNoClass(t, k, 0, api.ErrNil)
		wantDefine(t, k, "P", "Object", nil, 0, api.ErrNil)
		wantDefine(t, k, "p", "", texts("X"), 0, api.ErrNil)
		wantErr(t, "Global", k.Global("G"), api.ErrNil)
		wantErr(t, "Global", k.Global("g"), api.ErrNil)
		wantValue(t, k, 0, 0, api.ErrNil)
		wantErr(t, "SetValue", k.SetValue(-1, 0), api.ErrNil)
	}
}

// P13.7: what is done to one kernel is not seen in another.
func TestTwoKernels(t *testing.T) {
	a, b := booted(t, 1000, 100), booted(t, 1000, 100)
	was := all(b)
	defined(t, a, "P", "Object", "x")
	a.Global("G")
	a.SetValue(0, 7)
	a.Space().Heap().Put(4, api.ClassLayout, 9)
	if all(b) != was {
		t.Fatalf("%s, want %s", all(b), was)
	}
	c := booted(t, 1000, 100)
	if all(c) != was {
		t.Fatalf("%s, want %s", all(c), was)
	}
}

// R4: lists are new memory, and what is handed in stays as it was.
func TestMemory(t *testing.T) {
	k := booted(t, 1000, 100)
	room := texts("x", "y", "spare", "spare")
	p := defined(t, k, "P", "Object", room[:2]...)
	k.Define("Q", "P", room[:2:3])
	k.Define("Q", "P", room[2:3])
	if !slices.Equal(room, texts("x", "y", "spare", "spare")) {
		t.Fatalf("own became %q", room)
	}
	room[0] = "z"
	q, _ := k.Find("Q")
	k.Global("G")
	was := all(k)
	spoil := func(list []string) {
		list = list[:cap(list)]
		for i := range list {
			list[i] = "spoilt"
		}
	}
	for range 2 {
		x, _ := k.Info(p)
		spoil(x.Own)
		for _, oop := range []int{p, q, 4} {
			list, _ := k.Fields(oop)
			spoil(list)
		}
		spoil(k.Globals())
		numbers := k.Under(p)
		clear(numbers[:cap(numbers)])
	}
	if all(k) != was {
		t.Fatalf("%s, want %s", all(k), was)
	}
	x, _ := k.Info(p)
	y, _ := k.Info(p)
	spoil(x.Own)
	if !slices.Equal(y.Own, texts("x", "y")) {
		t.Fatalf("Own = %q", y.Own)
	}
}
