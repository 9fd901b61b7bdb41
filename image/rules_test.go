package image_test

import (
	"fmt"
	"slices"
	"strings"
	"testing"

	"kiln/api"
	"kiln/context"
	"kiln/image"
	"kiln/method"
	"kiln/proc"
)

// whichever is whatever rule is broken first.
const whichever = "whichever"

// change is something that is done to the rich world, and which rule it breaks; "": none.
type change struct {
	what, rule string
	do         func(w *world)
}

// judgeAll holds Sound, Load and the model against one another behind each change.
func judgeAll(t *testing.T, list []change) {
	t.Helper()
	text := rich(t).save()
	for _, c := range list {
		w := load(t, text)
		c.do(w)
		was := w.seen()
		sound := image.Sound(w.k)
		if sound != (c.rule == "") {
			t.Errorf("%s: Sound = %v", c.what, sound)
		}
		if w.seen() != was {
			t.Errorf("%s: Sound has changed something", c.what)
		}
		p := pictured(w.save())
		if c.rule == "" {
			keeps(t, c.what, p)
		} else {
			breaks(t, c.what, c.rule, p)
		}
	}
}

func (w *world) class(name string) int {
	w.t.Helper()
	oop, e := w.k.Find(name)
	if e != api.OK {
		w.t.Fatalf("Find(%q) = %d", name, e)
	}
	return oop
}

// method is the oop of a class's method.
func (w *world) method(class, selector string) int {
	w.t.Helper()
	m, e := w.b.At(w.class(class), selector)
	if e != api.OK {
		w.t.Fatalf("At(%q, %q) = %d", class, selector, e)
	}
	return m
}

// value is what a global holds.
func (w *world) value(name string) int {
	w.t.Helper()
	x, e := w.k.Value(slices.Index(w.k.Globals(), name))
	if e != api.OK {
		w.t.Fatalf("Value(%q) = %d", name, e)
	}
	return int(x) / 4
}

// hold lets the global G hold a word.
func (w *world) hold(x api.Word) {
	w.t.Helper()
	if e := w.k.SetValue(0, x); e != api.OK {
		w.t.Fatalf("SetValue(%d) = %d", x, e)
	}
}

func (w *world) process(n int) int {
	w.t.Helper()
	oop, e := proc.Object(w.k, n)
	if e != api.OK {
		w.t.Fatalf("Object(%d) = %d", n, e)
	}
	return oop
}

// chain is the contexts of a process.
func (w *world) chain(n int) []int {
	w.t.Helper()
	list, e := context.Chain(w.k, w.number(w.process(n), 0))
	if e != api.OK {
		w.t.Fatalf("Chain(%d) = %d", n, e)
	}
	return list
}

// root is the oop of one of the Arrays that the root names.
func (w *world) root(slot int) int { return w.number(api.Root, slot) }

func (w *world) symbol(text string) api.Word {
	w.t.Helper()
	n, e := w.k.Symbols().Add(text)
	if e != api.OK {
		w.t.Fatalf("Add(%q) = %d", text, e)
	}
	return sym(n)
}

// reform lets an oop be another object.
func (w *world) reform(oop, class, format int, slots ...api.Word) {
	w.t.Helper()
	w.k.Space().Heap().Exchange(oop, int(w.laid(class, format, slots...))/4)
}

// words is all slots of an object.
func (w *world) words(oop int) []api.Word {
	n, _, _ := w.k.Space().Heap().Size(oop)
	list := make([]api.Word, n)
	for i := range list {
		list[i] = w.at(oop, i)
	}
	return list
}

// longer and shorter let an object have a slot more at its end, or fewer.
func (w *world) longer(oop int, more ...api.Word) {
	class, _ := w.k.Space().Heap().Class(oop)
	w.reform(oop, int(class)/4, api.FormatWords, append(w.words(oop), more...)...)
}

func (w *world) shorter(oop int) {
	class, _ := w.k.Space().Heap().Class(oop)
	w.reform(oop, int(class)/4, api.FormatWords, w.words(oop)[:len(w.words(oop))-1]...)
}

// puts is changes of a slot of what a function tells.
func puts(what, rule string, which func(w *world) int, slot int, words ...api.Word) []change {
	var list []change
	for _, x := range words {
		list = append(list, change{fmt.Sprint(what, " has in ", slot, " ", x), rule, func(w *world) { w.put(which(w), slot, x) }})
	}
	return list
}

// Rule 1.
func TestRuleWords(t *testing.T) {
	judgeAll(t, []change{
		{"nothing", "", func(w *world) {}},
		{"a symbol that there is", "", func(w *world) { w.hold(sym(w.k.Symbols().Count() - 1)) }},
		{"a symbol that there is not", "1: slot", func(w *world) { w.hold(sym(w.k.Symbols().Count())) }},
		{"the last symbol of all", "1: slot", func(w *world) { w.hold(sym(4095)) }},
		{"a symbol given back", "1: slot", func(w *world) {
			x := w.symbol("more")
			w.hold(x)
			w.k.Symbols().Back(w.k.Symbols().Count() - 1)
		}},
		{"an object that is not there", "1: slot", func(w *world) { w.hold(obj(700)) }},
		{"an object that is gone", "1: slot", func(w *world) {
			x := w.array(num(1))
			w.hold(w.array(num(1), x))
			w.k.Space().Heap().Free(int(x) / 4)
		}},
		{"a class that is an integer", "1: class", func(w *world) { w.k.Space().Heap().SetClass(w.value("G"), num(4)) }},
		{"a class that is a symbol", "1: class", func(w *world) { w.k.Space().Heap().SetClass(w.value("G"), sym(4)) }},
		{"a class that is nil", "1: class", func(w *world) { w.k.Space().Heap().SetClass(w.value("G"), null) }},
		{"a class that is an instance", "1: class", func(w *world) { w.k.Space().Heap().SetClass(w.value("G"), obj(w.value("H"))) }},
		{"a class that is not there", "1: class", func(w *world) { w.k.Space().Heap().SetClass(w.value("G"), obj(700)) }},
		{"a class that is in no list", "1: class", func(w *world) {
			w.k.Space().Heap().SetClass(w.value("G"), w.laid(api.Class, api.FormatWords, w.words(w.class("P"))...))
		}},
		{"no slots, and a class that is nil", "1: class", func(w *world) { w.hold(w.laid(api.Nil, api.FormatWords)) }},
		{"no slots, and a class that is an Array", "1: class", func(w *world) { w.hold(w.laid(api.Empty, api.FormatWords)) }},
		{"no slots, and a class that is an integer", "1: class", func(w *world) {
			x := w.laid(api.Object, api.FormatWords)
			w.k.Space().Heap().SetClass(int(x)/4, num(4))
			w.hold(x)
		}},
		{"another object of that class", "", func(w *world) { w.hold(w.laid(w.class("P"), api.FormatWords, num(1), sym(1))) }},
		{"the class of something garbage", "", func(w *world) { w.k.Space().Heap().SetClass(int(w.array(num(1)))/4, num(1)) }},
		{"a symbol in something garbage", "", func(w *world) { w.array(sym(4000)) }},
		{"a kept object", "", func(w *world) {
			w.k.Space().Keep(w.laid(api.Process, api.FormatWords, num(3)), obj(600))
		}},
	})
}

// Rule 2.
func TestRuleKernel(t *testing.T) {
	list := []change{
		{"nil of another class", "2:", func(w *world) { w.k.Space().Heap().SetClass(api.Nil, obj(api.TrueClass)) }},
		{"false and true exchanged", "2:", func(w *world) { w.k.Space().Heap().Exchange(api.False, api.True) }},
		{"the empty Array with a slot", "2:", func(w *world) { w.reform(api.Empty, api.Array, api.FormatWords, num(1)) }},
		{"a class with a slot more", "2:", func(w *world) { w.longer(api.Integer, null) }},
		{"a class with a slot less", "2:", func(w *world) { w.shorter(api.Integer) }},
		{"a root with a slot more", "2:", func(w *world) { w.longer(api.Root, null) }},
		{"a root with a slot less", "2:", func(w *world) { w.shorter(api.Root) }},
		{"another root of the space", "2:", func(w *world) {}},
		{"two classes exchanged", "2:", func(w *world) { w.k.Space().Heap().Exchange(api.Integer, api.Symbol) }},
	}
	list[7].rule, list[7].do = "", func(w *world) {
		k := w.k.Space()
		for _, oop := range []int{api.Classes, int(w.array(w.words(api.Root)...)) / 4} {
			k.Crown(oop)
			if image.Sound(w.k) {
				w.t.Error("it is sound with another root")
			}
		}
		k.Crown(api.Root)
	}
	for oop := api.Nil; oop <= api.Root; oop++ {
		if oop < api.Object || oop == api.Empty {
			list = append(list,
				change{fmt.Sprint(oop, " of bytes"), "2:", func(w *world) {
					class, _ := w.k.Space().Heap().Class(oop)
					w.reform(oop, int(class)/4, api.FormatBytes)
				}},
				change{fmt.Sprint(oop, " with a slot"), "2:", func(w *world) { w.longer(oop, null) }},
			)
			continue
		}
		for slot := range 7 {
			kept := oop != api.Root && (slot == api.ClassSelectors || slot == api.ClassMethods)
			if oop == api.Root && slot < 3 || kept && !slices.Contains([]int{12, 13, 15, 16, 17}, oop) {
				continue
			}
			for _, x := range []api.Word{num(3), sym(30), null, obj(api.Array), obj(api.Classes), empty} {
				rule := "2:"
				if oop == api.Root {
					// What it names no more Save may collect ahead of that.
					rule = whichever
				}
				list = append(list, change{fmt.Sprintf("%d has in %d the word %d", oop, slot, x), rule, func(w *world) {
					if w.at(oop, slot) != x {
						w.put(oop, slot, x)
					} else {
						w.put(oop, slot, num(77))
					}
				}})
			}
		}
	}
	for _, name := range []string{"Class", "Method", "Context", "Process", "Message"} {
		list = append(list, change{"a method of " + name, "2:", func(w *world) {
			m, f := method.Compile(w.k, w.class(name), "foo ^3")
			if f.Code != api.OK || w.b.Put(w.class(name), "foo", m) != api.OK {
				w.t.Fatalf("Compile = %+v", f)
			}
		}})
	}
	for _, name := range []string{"Object", "UndefinedObject", "False", "True", "Integer", "Symbol", "String", "Array", "Block"} {
		list = append(list, change{"a method of " + name, "", func(w *world) { w.acts(lays(name, "foo ^3")) }})
	}
	judgeAll(t, list)
}

// Rule 2: what cannot be changed in a kernel that lives.
func TestRuleKernelSymbols(t *testing.T) {
	first := pictured(booted(t, 1000, 100).save())
	for i := range 14 {
		p := first.copied()
		p.symbols[i], p.symbols[(i+1)%14] = p.symbols[(i+1)%14], p.symbols[i]
		breaks(t, "symbols exchanged", "2:", p)
		p = first.copied()
		p.symbols[i] += "x"
		breaks(t, "another symbol", "2:", p)
		p = first.copied()
		p.symbols = p.symbols[:i]
		breaks(t, "too few symbols", "1:", p)
	}
	// The first thirteen alone would do for all words, if a class were called otherwise.
	p := first.copied()
	p.symbols = p.symbols[:13]
	p.objects[api.Message-1].slots[0] = 2
	breaks(t, "thirteen symbols", "2:", p)
}

// names gives a class other own names.
func (w *world) names(class string, words ...api.Word) {
	w.put(w.class(class), api.ClassOwn, w.array(words...))
}

// symbols is the symbols of n names.
func (w *world) symbols(first string, n int) []api.Word {
	var list []api.Word
	for i := range n {
		list = append(list, w.symbol(fmt.Sprint(first, i)))
	}
	return list
}

// Rule 3.
func TestRuleClasses(t *testing.T) {
	long := strings.Repeat("a", 31)
	list := []change{
		{"all classes, but one that nobody names", "", func(w *world) { w.shorter(w.root(api.RootClasses)) }},
		{"thirteen classes", "1:", func(w *world) {
			w.put(api.Root, api.RootClasses, w.array(w.words(w.root(api.RootClasses))[:13]...))
		}},
		{"no Array of classes", "1:", func(w *world) { w.put(api.Root, api.RootClasses, obj(w.value("H"))) }},
		{"a class twice", "3:", func(w *world) { w.longer(w.root(api.RootClasses), obj(w.class("P"))) }},
		{"a kernel's class twice", "3:", func(w *world) { w.longer(w.root(api.RootClasses), obj(api.Object)) }},
		{"two kernel's classes exchanged", "3:", func(w *world) {
			all := w.root(api.RootClasses)
			a, b := w.at(all, 4), w.at(all, 5)
			w.put(all, 4, b)
			w.put(all, 5, a)
		}},
		{"two classes exchanged", "3:", func(w *world) {
			all := w.root(api.RootClasses)
			a, b := w.at(all, 14), w.at(all, 16)
			w.put(all, 14, b)
			w.put(all, 16, a)
		}},
		{"a class that is none", "3:", func(w *world) { w.longer(w.root(api.RootClasses), obj(w.value("H"))) }},
		{"a class that is an integer", "3:", func(w *world) { w.longer(w.root(api.RootClasses), num(3)) }},
		{"a class with a slot more", "3:", func(w *world) { w.longer(w.class("P"), null) }},
		{"a class with a slot less", "3:", func(w *world) { w.shorter(w.class("P")) }},
		{"a class in no list", "7: class", func(w *world) {
			w.hold(w.laid(api.Class, api.FormatWords, w.symbol("New"), obj(api.Object), empty, empty, empty, num(0), num(19)))
		}},
		{"a class more, in the list", "", func(w *world) {
			w.longer(w.root(api.RootClasses), w.laid(api.Class, api.FormatWords, w.symbol("New"), obj(w.class("Q")), empty, empty, empty, num(7), num(19)))
		}},
		{"a class of bytes", "3:", func(w *world) { w.reform(w.class("E"), api.Class, api.FormatBytes, 1, 2, 3, 4, 5, 6, 7) }},
		{"own names that are nil", "3:", func(w *world) { w.put(w.class("P"), api.ClassOwn, null) }},
		{"own names that are a String", "3:", func(w *world) { w.put(w.class("P"), api.ClassOwn, w.str("xy")) }},
		{"32 fields", "", func(w *world) { w.names("E", w.symbols("f", 30)...) }},
		{"33 fields", "3: fields", func(w *world) { w.names("E", w.symbols("f", 31)...) }},
		{"a reserved name as a part", "", func(w *world) { w.names("E", w.symbol("selfs"), w.symbol("nill")) }},
	}
	for name, rule := range map[string]string{
		"Name": "", "A": "", "Aa1": "", "A" + long: "", "A" + long + "a": "3: name", "name": "3: name", "": "", "1A": "3: name", "A_b": "3: name",
		"A:": "3: name", "A b": "3: name", "P": "3: name", "Integer": "3: name", "Object": "3: name", "G": "5: name", "Äb": "3: name", "A\n": "3: name",
	} {
		list = append(list, change{"a class called " + name, rule, func(w *world) {
			if name != "" {
				w.put(w.class("E"), api.ClassName, w.symbol(name))
			}
		}})
	}
	for name, rule := range map[string]string{
		"n": "", "aB1": "", "a" + long: "", "a" + long + "a": "3: field name", "N": "3: field name", "self": "3: field name", "super": "3: field name",
		"nil": "3: field name", "true": "3: field name", "false": "3: field name", "a:": "3: field name", "1": "3: field name", "a b": "3: field name",
		"u": "3: field twice", "v": "3: field twice", "w": "3: field twice", "ä": "3: field name", "+": "3: field name", "x": "",
	} {
		list = append(list, change{"a field called " + name, rule, func(w *world) { w.names("E", w.symbol("w"), w.symbol(name)) }})
	}
	class := func(name string) func(w *world) int { return func(w *world) int { return w.class(name) } }
	list = append(list, puts("a class", "3: name", class("E"), api.ClassName, num(3), null, obj(api.Integer))...)
	list = append(list, puts("a class", "3: superclass", class("E"), api.ClassSuper, num(3), sym(3), null, obj(api.Integer), obj(api.Message), obj(api.Empty), obj(api.Root))...)
	list = append(list, puts("a class", "3: layout", class("E"), api.ClassLayout, num(-1), num(-1<<30), sym(3), null)...)
	list = append(list, puts("a class", "", class("E"), api.ClassLayout, num(0), num(1), num(1<<30-1))...)
	list = append(list, puts("a class", "3: number", class("E"), api.ClassNumber, num(0), num(-1), num(17), num(19), num(1), null, sym(18))...)
	list = append(list,
		change{"its own superclass", "3: superclass", func(w *world) { w.put(w.class("E"), api.ClassSuper, obj(w.class("E"))) }},
		change{"a superclass behind it", "3: superclass", func(w *world) { w.put(w.class("R"), api.ClassSuper, obj(w.class("E"))) }},
		change{"another superclass ahead", "", func(w *world) { w.put(w.class("E"), api.ClassSuper, obj(w.class("Q"))) }},
		change{"another superclass, whose field it has", "3: field twice", func(w *world) {
			w.put(w.class("E"), api.ClassSuper, obj(w.class("Q")))
			w.names("E", w.symbol("z"))
		}},
		change{"Object as the superclass", "", func(w *world) { w.put(w.class("E"), api.ClassSuper, obj(api.Object)) }},
		change{"own names that are integers", "3: field name", func(w *world) { w.names("E", num(3)) }},
		change{"own names that are nil", "3: field name", func(w *world) { w.names("E", null) }},
	)
	judgeAll(t, list)
}

// Rule 3: as many classes as may be, and one more.
func TestRuleManyClasses(t *testing.T) {
	w := booted(t, 100000, 2000)
	for i := 15; i <= 256; i++ {
		w.acts(defines(fmt.Sprint("C", i), []string{"Object", fmt.Sprint("C", i-1)}[min(1, (i-15)%30)], ""))
	}
	if text := w.save(); load(t, text).save() != text {
		t.Fatal("256 classes are not loaded as they were")
	}
	w.longer(w.root(api.RootClasses), w.laid(api.Class, api.FormatWords, w.symbol("New"), obj(api.Object), empty, empty, empty, num(0), num(257)))
	if image.Sound(w.k) {
		t.Fatal("257 classes are sound")
	}
	breaks(t, "257 classes", "3:", pictured(w.save()))
}

// Rule 4.
func TestRuleDictionaries(t *testing.T) {
	p := func(w *world) int { return w.class("P") }
	selectors := func(w *world) int { return w.number(w.class("P"), api.ClassSelectors) }
	methods := func(w *world) int { return w.number(w.class("P"), api.ClassMethods) }
	list := slices.Concat(
		puts("a class", "4: no Array", p, api.ClassSelectors, null, num(3), sym(3), obj(api.Integer)),
		puts("a class", "4: no Array", p, api.ClassMethods, null, num(3), sym(3), obj(api.Integer)),
		puts("a class", "4: how many", p, api.ClassSelectors, empty),
		puts("a class", "4: how many", p, api.ClassMethods, empty),
		puts("the selectors", "4: selectors", selectors, 0, num(3), null, obj(api.Integer)),
		puts("the methods", "4: class, format", methods, 0, num(3), null, sym(3), obj(api.Integer)),
	)
	list = append(list,
		change{"both lists empty", "", func(w *world) {
			w.put(p(w), api.ClassSelectors, empty)
			w.put(p(w), api.ClassMethods, empty)
		}},
		change{"a selector more", "4: how many", func(w *world) { w.longer(selectors(w), w.symbol("zzz")) }},
		change{"a method more", "4: how many", func(w *world) { w.longer(methods(w), obj(w.method("P", "sum"))) }},
		change{"a method twice", "4: selectors", func(w *world) {
			w.longer(selectors(w), w.symbol("x:y:"))
			w.longer(methods(w), obj(w.method("P", "x:y:")))
		}},
		change{"methods exchanged", "4: method", func(w *world) {
			a, b := w.at(methods(w), 0), w.at(methods(w), 1)
			w.put(methods(w), 0, b)
			w.put(methods(w), 1, a)
		}},
		change{"both lists turned round", "4: selectors", func(w *world) {
			for _, l := range []int{methods(w), selectors(w)} {
				a, b := w.at(l, 0), w.at(l, 1)
				w.put(l, 0, b)
				w.put(l, 1, a)
			}
		}},
		change{"another class's method", "4: method", func(w *world) {
			w.put(methods(w), 0, obj(w.method("Q", "sum")))
		}},
		change{"a method of another class", "4: method", func(w *world) { w.put(w.method("P", "sum"), api.MethodClass, obj(w.class("Q"))) }},
		change{"a method of another layout", "4: method", func(w *world) { w.put(w.method("R", "last"), api.MethodLayout, num(0)) }},
		change{"a class of another layout", "4: method", func(w *world) { w.put(w.class("P"), api.ClassLayout, num(1)) }},
		change{"a method of another selector", "4: method", func(w *world) { w.put(w.method("P", "sum"), api.MethodSelector, w.symbol("sun")) }},
		change{"a selector of another method", "4: method", func(w *world) { w.put(selectors(w), 0, w.symbol("sun")) }},
		change{"a method with a slot more", "4:", func(w *world) { w.longer(w.method("P", "sum"), null) }},
		change{"a method with a slot less", "4:", func(w *world) { w.shorter(w.method("P", "sum")) }},
		change{"an Array in a method's place", "4:", func(w *world) {
			m := w.method("P", "sum")
			w.reform(m, api.Array, api.FormatWords, w.words(m)...)
		}},
	)
	judgeAll(t, list)
}

// Rule 4: as many methods as may be, and one more.
func TestRuleManyMethods(t *testing.T) {
	w := booted(t, 100000, 5000)
	w.acts(defines("P", "Object", "x"))
	for i := range 128 {
		w.acts(lays("P", fmt.Sprintf("m%03d ^x", i)))
	}
	if text := w.save(); load(t, text).save() != text {
		t.Fatal("128 methods are not loaded as they were")
	}
	m, f := method.Compile(w.k, w.class("P"), "m128 ^x")
	if f.Code != api.OK {
		t.Fatalf("Compile = %+v", f)
	}
	w.longer(w.number(w.class("P"), api.ClassSelectors), w.symbol("m128"))
	w.longer(w.number(w.class("P"), api.ClassMethods), obj(m))
	if image.Sound(w.k) {
		t.Fatal("129 methods are sound")
	}
	breaks(t, "129 methods", "4: how many", pictured(w.save()))
}

// Rule 5.
func TestRuleGlobals(t *testing.T) {
	all := func(w *world) int { return w.root(api.RootGlobals) }
	root := func(w *world) int { return api.Root }
	list := slices.Concat(
		puts("the root", "5: no Array", root, api.RootGlobals, null, num(3), sym(3), obj(api.Integer)),
		puts("the globals", "5: name", all, 2, null, num(3), sym(3), sym(0), obj(api.Integer), empty),
		puts("the globals", "", all, 3, null, num(3), sym(3), sym(0), obj(api.Integer), empty),
	)
	for name, rule := range map[string]string{"K": "", "K1k": "", "k": "5: name", "G": "5: name", "P": "5: name", "Integer": "5: name", "K_": "5: name", "1": "5: name", "K" + strings.Repeat("k", 32): "5: name"} {
		list = append(list, change{"a global called " + name, rule, func(w *world) { w.put(all(w), 6, w.symbol(name)) }})
	}
	list = append(list,
		change{"no globals", "8: names", func(w *world) { w.put(api.Root, api.RootGlobals, empty) }},
		change{"an odd Array", "5: how many", func(w *world) { w.longer(all(w), w.symbol("K")) }},
		change{"one global more", "", func(w *world) { w.longer(all(w), w.symbol("K"), obj(w.value("G"))) }},
		change{"256 globals", "", func(w *world) {
			for i := range 252 {
				w.longer(all(w), w.symbol(fmt.Sprint("K", i)), num(i))
			}
		}},
		change{"257 globals", "5: how many", func(w *world) {
			for i := range 253 {
				w.longer(all(w), w.symbol(fmt.Sprint("K", i)), num(i))
			}
		}},
	)
	judgeAll(t, list)
}

// Rule 6.
func TestRuleProcesses(t *testing.T) {
	all := func(w *world) int { return w.root(api.RootProcesses) }
	root := func(w *world) int { return api.Root }
	one := func(w *world) int { return w.process(1) }
	list := slices.Concat(
		puts("the root", "6: no Array", root, api.RootProcesses, null, num(3), sym(3), obj(api.Integer)),
		puts("the processes", "", all, 2, num(0), num(1), num(183), num(999)),
		puts("the processes", "6: integer", all, 2, num(-1), num(1000), num(-1<<30), num(1<<30-1)),
		puts("the processes", "6: class", all, 2, null, sym(3), obj(api.Integer), empty),
		puts("a process", "6: no context", one, 0, num(3), sym(3), obj(api.Integer), empty),
		puts("a process", "6: no chain", one, 0, null),
	)
	list = append(list,
		change{"no processes", "", func(w *world) { w.put(api.Root, api.RootProcesses, empty) }},
		change{"a process less", "", func(w *world) { w.put(all(w), 0, num(190)) }},
		change{"1024 processes", "", func(w *world) {
			w.longer(all(w), slices.Repeat([]api.Word{num(0)}, 1024-len(w.words(all(w))))...)
		}},
		change{"1025 processes", "6: how many", func(w *world) {
			w.longer(all(w), slices.Repeat([]api.Word{num(0)}, 1025-len(w.words(all(w))))...)
		}},
		change{"a process twice", "6: twice", func(w *world) { w.put(all(w), 2, obj(one(w))) }},
		change{"a context in the place of a process", "6: class", func(w *world) { w.put(all(w), 2, obj(w.chain(1)[0])) }},
		change{"a process in a global alone", "6: a Process", func(w *world) {
			w.hold(obj(one(w)))
			w.put(all(w), 0, num(0))
		}},
		change{"a process in a global, too", "12:", func(w *world) { w.hold(obj(one(w))) }},
		change{"a process with two slots", "6: class", func(w *world) { w.longer(one(w), null) }},
		change{"a process without slots", "6: class", func(w *world) { w.shorter(one(w)) }},
		change{"a process of bytes", "6: class", func(w *world) { w.reform(one(w), api.Process, api.FormatBytes, 4) }},
		change{"two processes with one context", "6: chain", func(w *world) { w.put(w.process(2), 0, w.at(one(w), 0)) }},
		change{"two processes with one sender", "6: chain", func(w *world) { w.put(w.chain(8)[4], api.ContextSender, obj(w.chain(7)[0])) }},
		change{"a process with a block's object", "6: no context", func(w *world) { w.put(one(w), 0, obj(w.value("H"))) }},
		change{"another process beside it", "", func(w *world) {
			w.acts(spawns("^9"))
		}},
	)
	judgeAll(t, list)
}

// Rule 7.
func TestRuleInstances(t *testing.T) {
	var list []change
	for _, class := range []int{5, 6, 7, 8, 9} {
		list = append(list,
			change{fmt.Sprint("an instance of ", class), "7: nil", func(w *world) { w.hold(w.laid(class, api.FormatWords)) }},
			change{fmt.Sprint("an instance of bytes of ", class), "7: nil", func(w *world) { w.hold(w.laid(class, api.FormatBytes, 1, 2)) }},
		)
	}
	of := func(what, rule, class string, format int, slots ...api.Word) {
		list = append(list, change{what, rule, func(w *world) { w.hold(w.laid(w.class(class), format, slots...)) }})
	}
	for n := range 5 {
		slots := slices.Repeat([]api.Word{num(1)}, n)
		for class, fields := range map[string]int{"Object": 0, "P": 2, "Q": 3, "R": 2, "E": 2} {
			rule := "7: instance"
			if n == fields {
				rule = ""
			}
			of(fmt.Sprint(n, " slots of ", class), rule, class, api.FormatWords, slots...)
			of(fmt.Sprint(n, " bytes of ", class), "7: instance", class, api.FormatBytes, slots...)
		}
		of("words of String", "7: string", "String", api.FormatWords, slots...)
		of("bytes of String", "", "String", api.FormatBytes, slots...)
		of("bytes of Array", "7: array", "Array", api.FormatBytes, slots...)
		rule := ""
		if n == 0 {
			rule = "7: array"
		}
		of("words of Array", rule, "Array", api.FormatWords, slots...)
	}
	of("a Message", "", "Message", api.FormatWords, sym(3), empty)
	of("a Message without slots", "7: message", "Message", api.FormatWords)
	of("a Message of one slot", "7: message", "Message", api.FormatWords, sym(3))
	of("a Message of three slots", "7: message", "Message", api.FormatWords, sym(3), empty, null)
	of("a Message of bytes", "7: message", "Message", api.FormatBytes, 14, 72)
	of("a Message without a symbol", "7: message", "Message", api.FormatWords, null, empty)
	of("a Message of an integer", "7: message", "Message", api.FormatWords, num(3), empty)
	of("a Message without an Array", "7: no Array", "Message", api.FormatWords, sym(3), null)
	of("a Message with a class", "7: no Array", "Message", api.FormatWords, sym(3), obj(api.Array))
	list = append(list, change{"a Message with a String", "7: no Array", func(w *world) {
		w.hold(w.laid(api.Message, api.FormatWords, sym(3), w.str("a")))
	}}, change{"a Message with an Array", "", func(w *world) {
		w.hold(w.laid(api.Message, api.FormatWords, sym(3), w.array(num(1), null)))
	}}, change{"no fields in an instance of none", "", func(w *world) {
		w.acts(defines("Z", "Object", ""))
		w.hold(w.laid(w.class("Z"), api.FormatWords))
	}})
	judgeAll(t, list)
}
