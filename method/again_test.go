package method_test

import (
	"fmt"
	"slices"
	"testing"

	"kiln/api"
	"kiln/class"
	"kiln/method"
	"kiln/symbol"
)

// P15.4: the faults are those of a compile with these fields; nothing is changed.
func TestCheck(t *testing.T) {
	k, p := world(t)
	m := kept(k, compiled(t, k, p, "foo: a | b | b := x. y := a. ^b"))
	d := kept(k, doit(t, k, "| x | x := G"))
	k.Space().Heap().Mark(100)
	var many []string
	for i := range 33 {
		many = append(many, fmt.Sprint("f", i))
	}
	was := seen(k)
	for _, c := range []struct {
		m      int
		want   api.Fault
		fields []string
	}{
		{m, fault(api.OK, 0), []string{"x", "y"}},
		{m, fault(api.OK, 0), []string{"z", "y", "w", "x"}},
		{m, fault(api.ErrUnknown, 18), []string{"y"}},
		{m, fault(api.ErrUnknown, 21), []string{"x"}},
		{m, fault(api.ErrUnknown, 18), nil},
		{m, fault(api.ErrTwice, 5), []string{"x", "y", "a"}},
		{m, fault(api.ErrTwice, 9), []string{"b", "x", "y"}},
		{m, fault(api.OK, 0), append(many[:30:30], "x", "y")},
		{m, fault(api.ErrTree, 21), append(many[:31:31], "x", "y")},
		{m, fault(api.ErrTree, 18), append(many[:33:33], "x", "y")},
		{d, fault(api.OK, 0), nil},
		{d, fault(api.OK, 0), []string{"y"}},
		{d, fault(api.ErrTwice, 2), []string{"x"}},
	} {
		wantCheck(t, k, c.m, c.want, c.fields...)
		if seen(k) != was {
			t.Fatalf("Check(%q) has changed something", c.fields)
		}
	}
}

// P15.4: classes and globals are those that there are now.
func TestCheckNames(t *testing.T) {
	k, p := world(t)
	m := kept(k, compiled(t, k, p, "foo ^G == P"))
	k.Global("H")
	defined(t, k, "Q", "P")
	wantCheck(t, k, m, fault(api.OK, 0))
	k.Space().SetRoot(api.RootGlobals, 72)
	wantCheck(t, k, m, fault(api.ErrUnknown, 5))
	wantNotAgain(t, k, m, 1, api.ErrUnknown)
}

// P15.4, P15.5: symbols that a Check adds are given back, those that a refused Again adds, too.
func TestSymbolsAgain(t *testing.T) {
	k, p := world(t)
	n := k.Symbols().Count()
	m := kept(k, compiled(t, k, p, "foo ^x bar: #one"))
	k.Symbols().Back(n)
	was := seen(k)
	wantCheck(t, k, m, fault(api.OK, 0), "x")
	wantCheck(t, k, m, fault(api.ErrUnknown, 5), "y")
	if seen(k) != was {
		t.Fatal("Check has changed something")
	}
	k.Space().Heap().Mark(1)
	wantNotAgain(t, k, m, 1, api.ErrMarked, "x")
	wantNotAgain(t, k, m, 1, api.ErrUnknown, "y")
	if seen(k) != was {
		t.Fatal("Again has changed something")
	}
	for more, want := range []api.Fault{
		fault(api.ErrSymbols, 0), fault(api.ErrSymbols, 12), fault(api.ErrSymbols, 7),
	} {
		small := few(t, k, more)
		was := seen(small)
		wantCheck(t, small, m, want, "x")
		wantNotAgain(t, small, m, 1, want.Code, "x")
		if seen(small) != was {
			t.Fatalf("with %d symbols more something has changed", more)
		}
	}
	again(t, k, m, 1, "x")
	if all := k.Symbols().All()[n:]; !slices.Equal(all, []string{"foo", "one", "bar:"}) {
		t.Fatalf("the symbols %q are added", all)
	}
}

// P15.4: no method has the oop.
func TestNoMethods(t *testing.T) {
	k, p := world(t)
	m := kept(k, compiled(t, k, p, sum))
	for _, oop := range slices.Concat(numbersTo(0), k.Space().Heap().All(), []int{0, 99, 599}) {
		if oop != m {
			wantNone(t, k, oop)
		}
	}
	k.Space().Heap().Free(m)
	wantNone(t, k, m)
}

// wantNone says that under this oop there is no method.
func wantNone(t *testing.T, k *class.Kernel, oop int) {
	t.Helper()
	was := seen(k)
	wantCheck(t, k, oop, fault(api.ErrArg, 0), "x", "y")
	wantNotAgain(t, k, oop, 0, api.ErrArg, "x", "y")
	wantNotAgain(t, k, oop, -1, api.ErrArg, "x", "y")
	if i, e := method.Info(k, oop); fmt.Sprint(i) != fmt.Sprint(api.MethodInfo{}) || e != api.ErrArg {
		t.Fatalf("Info(%d) = %v, %d", oop, i, e)
	}
	wantStale(t, k, oop, false)
	if seen(k) != was {
		t.Fatalf("the oop %d has changed something", oop)
	}
}

// P15.4 to P15.6: objects that are nearly methods are none.
func TestNearlyMethods(t *testing.T) {
	k, p := world(t)
	h := k.Space().Heap()
	m := kept(k, compiled(t, k, p, "foo ^'a' , x"))
	i := infoOf(t, k, m)
	h.Put(m, api.MethodLayout, 9)
	wantStale(t, k, m, true)
	code, source := at(k, m, api.MethodCode), at(k, m, api.MethodSource)
	for _, c := range []struct {
		slot int
		bad  []api.Word
	}{
		{api.MethodSelector, []api.Word{3, 8, 72, source}},
		{api.MethodLayout, []api.Word{2, 4, 72}},
		{api.MethodArgs, []api.Word{2, 4, 72}},
		{api.MethodTemps, []api.Word{2, 4, 72}},
		{api.MethodStack, []api.Word{2, 4, 72}},
		{api.MethodLiterals, []api.Word{3, 2, 4, 16, 4 * 599, source}},
		{api.MethodCode, []api.Word{3, 2, 4, 16, 4 * 599, source, api.Word(4 * i.Literals)}},
		{api.MethodSource, []api.Word{3, 2, 4, 16, 72, 4 * 599, code}},
	} {
		was := at(k, m, c.slot)
		for _, bad := range c.bad {
			h.Put(m, c.slot, bad)
			wantNone(t, k, m)
		}
		h.Put(m, c.slot, was)
		wantStale(t, k, m, true)
	}
	for _, oop := range []int{int(code) / 4, int(source) / 4, i.Literals} {
		was, _ := h.Class(oop)
		h.SetClass(oop, 16)
		wantNone(t, k, m)
		h.SetClass(oop, was)
	}
	h.SetClass(m, 4*api.Block)
	wantNone(t, k, m)
	h.SetClass(m, 3)
	wantNone(t, k, m)
	h.SetClass(m, 4*api.Method)
	infoOf(t, k, m)
}

// P15.4 to P15.6: a method has just 9 slots, of words.
func TestOtherForms(t *testing.T) {
	k, p := world(t)
	h := k.Space().Heap()
	m := kept(k, compiled(t, k, p, sum))
	for _, n := range []int{0, 1, 8, 9, 10} {
		w, _ := k.Space().Alloc(4*api.Method, n, 0)
		for i := range min(n, 9) {
			h.Put(int(w)/4, i, at(k, m, i))
		}
		if n != 9 {
			wantNone(t, k, int(w)/4)
			continue
		}
		wantInfo(t, k, int(w)/4, infoOf(t, k, m))
	}
	// All words of m are small enough to be bytes.
	w, _ := k.Space().Alloc(4*api.Method, 9, 1)
	for i := range 9 {
		if e := h.Put(int(w)/4, i, at(k, m, i)); e != api.OK {
			t.Fatalf("Put = %d", e)
		}
	}
	wantNone(t, k, int(w)/4)
	w, _ = k.Space().Alloc(4*api.Method, 9, 0)
	wantNone(t, k, int(w)/4)
}

// P15.5: the layout number's range comes ahead of what the source says.
func TestAgainLayouts(t *testing.T) {
	k, p := world(t)
	m := kept(k, compiled(t, k, p, sum))
	for _, layout := range []int{0, 1, 7, api.MaxCount} {
		n := again(t, k, m, layout, "x", "y")
		if i := infoOf(t, k, n); i.Layout != layout {
			t.Fatalf("the layout number is %d, want %d", i.Layout, layout)
		}
		wantNotAgain(t, k, m, layout, api.ErrUnknown, "x")
	}
	for _, layout := range append(numbersTo(0), api.MaxCount+1, -api.MaxCount) {
		if layout < 0 || layout > api.MaxCount {
			wantNotAgain(t, k, m, layout, api.ErrArg, "x", "y")
			wantNotAgain(t, k, m, layout, api.ErrArg, "x")
		}
	}
}

// P15.5, M3: what is allocated, and what is the old one's own.
func TestAgainAllocations(t *testing.T) {
	k, p := world(t)
	source := "foo: a | b | b := 'lit'. x := y. ^#(1 'two')"
	m := kept(k, compiled(t, k, p, source))
	was := fmt.Sprint(k.Space().Heap().State().Objects)
	n := 0
	list := fresh(k, func() { n = again(t, k, m, 5, "z", "y", "w", "x") })
	if fmt.Sprint(k.Space().Heap().State().Objects[:len(k.Space().Heap().All())-2]) != was {
		t.Fatal("an older object has changed")
	}
	o := func(i int) int { return int(at(k, m, i)) }
	wantFresh(t, list,
		// Lit 0, StoreTemp 0 1, Pop, Field 1, StoreField 3, Pop, Lit 1, Return
		"11 [13 1 27 1 3 31 19 3 25 7 31 13 3 41]",
		fmt.Sprint("13 ", []int{o(0), o(1), 11, 3, 5, 3, o(6), 4 * list[0].Oop, o(8)}),
	)
	if list[1].Oop != n {
		t.Fatalf("Again = %d", n)
	}
	d := kept(k, doit(t, k, "^G"))
	n = again(t, k, d, 3)
	wantInfo(t, k, n, api.MethodInfo{Class: 5, Layout: 3, Stack: 1, Literals: 18, Code: []int{11, 0, 20}, Source: "^G"})
	if at(k, n, api.MethodSelector) != 4 {
		t.Fatal("a doit has a selector")
	}
}

// P15.5: what has other code has its slots and its stack by that, and all else by the old one.
func TestAgainKeepsTheOld(t *testing.T) {
	k, p := world(t)
	m := kept(k, compiled(t, k, p, sum))
	other := kept(k, compiled(t, k, p, "foo: a | b c | ^a foo: b bar: c"))
	k.Space().Heap().Put(m, api.MethodSource, at(k, other, api.MethodSource))
	want := infoOf(t, k, other)
	want.Selector, want.Args, want.Layout = "sum", 0, 2
	wantInfo(t, k, again(t, k, m, 2, "x", "y"), want)
}

// P15.5, P15.3: marks and rooms.
func TestAgainRefused(t *testing.T) {
	for mark := 1; mark <= 4; mark++ {
		k, p := world(t)
		m := kept(k, compiled(t, k, p, sum))
		was := reached(k)
		k.Space().Heap().Mark(mark)
		if mark <= 2 {
			wantNotAgain(t, k, m, 1, api.ErrMarked, "y", "x")
			wantMark(t, k, 0)
			if reached(k) != was {
				t.Fatalf("the mark %d has changed something", mark)
			}
		}
		k.Space().Heap().Mark(mark)
		wantNotAgain(t, k, m, 1, api.ErrUnknown, "y")
		wantMark(t, k, mark)
		if mark > 2 {
			again(t, k, m, 1, "y", "x")
			wantMark(t, k, mark-2)
		}
	}
	need := 2 + 8 + 2 + 9
	for left := 0; left <= need; left++ {
		k, p := world(t)
		m := kept(k, compiled(t, k, p, sum))
		fill(t, k, left)
		k.Space().Heap().Mark(9)
		was := reached(k)
		if left < need {
			wantNotAgain(t, k, m, 1, api.ErrFull, "y", "x")
			wantMark(t, k, 9)
			if reached(k) != was {
				t.Fatalf("something has changed with %d words", left)
			}
			continue
		}
		again(t, k, m, 1, "y", "x")
		wantMark(t, k, 7)
	}
}

// M2, P15.7: an old method that nothing leads to lives till the new one is made, and what it holds goes on.
func TestAgainOfGarbage(t *testing.T) {
	need := richWords() + 2 + 14 + 2 + 9
	for litter := range need {
		k, p := world(t)
		fill(t, k, need)
		room, _ := k.Space().Heap().Room()
		m := compiled(t, k, p, rich)
		if litter >= 2 && litter <= room-richWords() {
			k.Space().Alloc(4*api.Array, litter-2, 0)
		}
		n := again(t, k, m, 1)
		wantRich(t, k, n)
		wantRich(t, k, m)
		if at(k, m, api.MethodLiterals) != at(k, n, api.MethodLiterals) {
			t.Fatal("the literals are others")
		}
	}
	k, p := world(t)
	fill(t, k, need-1)
	m := compiled(t, k, p, rich)
	wantNotAgain(t, k, m, 1, api.ErrFull)
}

// P15.6: what the slots say.
func TestInfo(t *testing.T) {
	k, p := world(t)
	q := defined(t, k, "Q", "P", "z")
	m := kept(k, compiled(t, k, p, "foo: a bar: b | c | ^'text'"))
	h := k.Space().Heap()
	i := infoOf(t, k, m)
	want := api.MethodInfo{
		Selector: "foo:bar:", Class: p, Args: 2, Temps: 3, Stack: 1, Literals: i.Literals,
		Code: []int{6, 0, 20}, Source: "foo: a bar: b | c | ^'text'",
	}
	wantInfo(t, k, m, want)
	for slot, w := range map[int]api.Word{
		api.MethodSelector: 2, api.MethodClass: api.Word(4 * q), api.MethodLayout: 11,
		api.MethodArgs: 13, api.MethodTemps: -15, api.MethodStack: 17, api.MethodLiterals: 76, api.MethodCode: 72,
	} {
		h.Put(m, slot, w)
	}
	wantInfo(t, k, m, api.MethodInfo{
		Selector: "Object", Class: q, Layout: 5, Args: 6, Temps: -8, Stack: 8, Literals: 19, Source: want.Source,
	})
	h.Put(m, api.MethodSelector, 4)
	if infoOf(t, k, m).Selector != "" {
		t.Fatalf("Info = %v", infoOf(t, k, m))
	}
}

// P15.6: a method is stale by its class's layout number alone.
func TestStale(t *testing.T) {
	k, p := world(t)
	q := defined(t, k, "Q", "P", "z")
	h := k.Space().Heap()
	m, n := kept(k, compiled(t, k, p, sum)), kept(k, compiled(t, k, q, sum))
	d := kept(k, doit(t, k, "^1"))
	later := kept(k, again(t, k, m, 3, "x", "y"))
	hold := func(want ...int) {
		t.Helper()
		for _, x := range []int{m, n, d, later} {
			wantStale(t, k, x, slices.Contains(want, x))
		}
	}
	hold(later)
	h.Put(p, api.ClassLayout, 2*3+1)
	hold(m)
	h.Put(q, api.ClassLayout, 2*1+1)
	hold(m, n)
	h.Put(p, api.ClassLayout, 2*2+1)
	hold(m, n, later)
	h.Put(5, api.ClassLayout, 2*api.MaxCount+1)
	hold(m, n, later, d)
}

// P15.6: a method whose class is none any more is stale, and a method all the same.
func TestClassIsGone(t *testing.T) {
	k, p := world(t)
	m := kept(k, compiled(t, k, p, sum))
	classes := at(k, api.Root, api.RootClasses)
	w, _ := k.Space().Alloc(4*api.Array, 14, 0)
	for i := range 14 {
		k.Space().Heap().Put(int(w)/4, i, api.Word(4*(4+i)))
	}
	k.Space().SetRoot(api.RootClasses, w)
	wantStale(t, k, m, true)
	if i := infoOf(t, k, m); i.Class != p {
		t.Fatalf("Info = %v", i)
	}
	wantCheck(t, k, m, fault(api.OK, 0), "y", "x")
	if i := infoOf(t, k, again(t, k, m, 0, "y", "x")); i.Class != p || i.Code[1] != 1 {
		t.Fatalf("Info = %v", i)
	}
	wantRefused(t, k, p, sum, fault(api.ErrClass, 0))
	k.Space().SetRoot(api.RootClasses, classes)
	for _, c := range []api.Word{4, 76, 4 * 599, 3, 2} {
		k.Space().Heap().Put(m, api.MethodClass, c)
		wantStale(t, k, m, true)
		wantCheck(t, k, m, fault(api.OK, 0), "y", "x")
	}
}

// R5: a kernel over what another one left says the same.
func TestOverTheSame(t *testing.T) {
	k, p := world(t)
	m := kept(k, compiled(t, k, p, sum))
	x, _ := symbol.Load(k.Symbols().All(), api.MaxSymbols)
	over, _ := class.Over(k.Space(), x)
	wantInfo(t, over, m, infoOf(t, k, m))
	n := compiled(t, over, p, sum)
	wantInfo(t, over, n, infoOf(t, k, m))
}
