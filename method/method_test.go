package method_test

import (
	"fmt"
	"slices"
	"strings"
	"testing"

	"kiln/api"
	"kiln/class"
	"kiln/method"
)

const sum = "sum ^x + y"

func booted(t *testing.T, words, oops int) *class.Kernel {
	t.Helper()
	k, e := class.Boot(words, oops)
	if e != api.OK {
		t.Fatalf("Boot(%d, %d) = %d", words, oops, e)
	}
	return k
}

// world is a kernel with the class P (fields x, y) and the global G.
func world(t *testing.T) (*class.Kernel, int) {
	t.Helper()
	return worldOf(t, 6000, 600)
}

func worldOf(t *testing.T, words, oops int) (*class.Kernel, int) {
	t.Helper()
	k := booted(t, words, oops)
	p := defined(t, k, "P", "Object", "x", "y")
	if e := k.Global("G"); e != api.OK {
		t.Fatalf("Global = %d", e)
	}
	k.Space().Collect()
	return k, p
}

func defined(t *testing.T, k *class.Kernel, name, super string, own ...string) int {
	t.Helper()
	oop, e := k.Define(name, super, own)
	if e != api.OK {
		t.Fatalf("Define(%q, %q) = %d", name, super, e)
	}
	return oop
}

func fault(code api.Errno, at int) api.Fault { return api.Fault{Code: code, At: at} }

// compiled is a method that nothing leads to.
func compiled(t *testing.T, k *class.Kernel, class int, source string) int {
	t.Helper()
	m, f := method.Compile(k, class, source)
	if f != fault(api.OK, 0) || m == 0 {
		t.Fatalf("Compile(%d, %q) = %d, %v", class, source, m, f)
	}
	return m
}

func doit(t *testing.T, k *class.Kernel, source string) int {
	t.Helper()
	m, f := method.Doit(k, source)
	if f != fault(api.OK, 0) || m == 0 {
		t.Fatalf("Doit(%q) = %d, %v", source, m, f)
	}
	return m
}

// kept is the method itself, which the space keeps from now on.
func kept(k *class.Kernel, m int) int {
	k.Space().Keep(api.Word(4 * m))
	return m
}

func wantRefused(t *testing.T, k *class.Kernel, class int, source string, want api.Fault) {
	t.Helper()
	if m, f := method.Compile(k, class, source); m != 0 || f != want {
		t.Fatalf("Compile(%d, %q) = %d, %v, want 0, %v", class, source, m, f, want)
	}
}

func wantDoitRefused(t *testing.T, k *class.Kernel, source string, want api.Fault) {
	t.Helper()
	if m, f := method.Doit(k, source); m != 0 || f != want {
		t.Fatalf("Doit(%q) = %d, %v, want 0, %v", source, m, f, want)
	}
}

func wantCheck(t *testing.T, k *class.Kernel, m int, want api.Fault, fields ...string) {
	t.Helper()
	if f := method.Check(k, m, fields); f != want {
		t.Fatalf("Check(%d, %q) = %v, want %v", m, fields, f, want)
	}
}

func wantNotAgain(t *testing.T, k *class.Kernel, m, layout int, want api.Errno, fields ...string) {
	t.Helper()
	if oop, e := method.Again(k, m, fields, layout); oop != 0 || e != want {
		t.Fatalf("Again(%d, %q, %d) = %d, %d, want 0, %d", m, fields, layout, oop, e, want)
	}
}

func again(t *testing.T, k *class.Kernel, m, layout int, fields ...string) int {
	t.Helper()
	oop, e := method.Again(k, m, fields, layout)
	if oop == 0 || e != api.OK {
		t.Fatalf("Again(%d, %q, %d) = %d, %d", m, fields, layout, oop, e)
	}
	return oop
}

func infoOf(t *testing.T, k *class.Kernel, m int) api.MethodInfo {
	t.Helper()
	i, e := method.Info(k, m)
	if e != api.OK {
		t.Fatalf("Info(%d) = %d", m, e)
	}
	return i
}

func wantInfo(t *testing.T, k *class.Kernel, m int, want api.MethodInfo) {
	t.Helper()
	if i := infoOf(t, k, m); fmt.Sprint(i) != fmt.Sprint(want) {
		t.Fatalf("Info(%d) = %v, want %v", m, i, want)
	}
}

func wantStale(t *testing.T, k *class.Kernel, m int, want bool) {
	t.Helper()
	if method.Stale(k, m) != want {
		t.Fatalf("Stale(%d) = %v", m, !want)
	}
}

func wantMark(t *testing.T, k *class.Kernel, want int) {
	t.Helper()
	if n := k.Space().Heap().Marked(); n != want {
		t.Fatalf("the mark stands at %d, want %d", n, want)
	}
}

func symbolOf(t *testing.T, k *class.Kernel, text string) int {
	t.Helper()
	n, there := k.Symbols().Find(text)
	if !there {
		t.Fatalf("there is no symbol %q", text)
	}
	return n
}

func at(k *class.Kernel, oop, i int) api.Word {
	w, _ := k.Space().Heap().At(oop, i)
	return w
}

// told is an object by its class, format and slots.
func told(x api.HeapObject) string {
	if x.Format == api.FormatBytes {
		var text strings.Builder
		for _, w := range x.Slots {
			text.WriteByte(byte(w))
		}
		return fmt.Sprintf("%d %q", x.Class/4, text.String())
	}
	return fmt.Sprint(x.Class/4, " ", x.Slots)
}

// fresh is the objects that a call allocates, in the order of their places,
// which is that of the allocations; there must be room for them without a collection.
func fresh(k *class.Kernel, call func()) []api.HeapObject {
	n := len(k.Space().Heap().State().Objects)
	call()
	return k.Space().Heap().State().Objects[n:]
}

func wantFresh(t *testing.T, list []api.HeapObject, want ...string) {
	t.Helper()
	var got []string
	for _, x := range list {
		got = append(got, told(x))
	}
	if !slices.Equal(got, want) {
		t.Fatalf("allocated are\n%s\nwant\n%s", strings.Join(got, "\n"), strings.Join(want, "\n"))
	}
}

// seen is all that there is of a kernel: objects, places, symbols, what is kept, the mark.
func seen(k *class.Kernel) string {
	s := k.Space()
	return fmt.Sprint(s.Heap().State(), s.Kept(), s.Crowned(), k.Symbols().All())
}

// reached is what there is of a kernel but for garbage and where objects lie.
func reached(k *class.Kernel) string {
	s := k.Space()
	s.Collect()
	objects := s.Heap().State().Objects
	slices.SortFunc(objects, func(a, b api.HeapObject) int { return a.Oop - b.Oop })
	return fmt.Sprint(objects, s.Kept(), s.Crowned(), k.Symbols().All())
}

// Example 1.
func TestExampleSum(t *testing.T) {
	k, p := world(t)
	m := compiled(t, k, p, sum)
	plus := symbolOf(t, k, "+")
	wantInfo(t, k, m, api.MethodInfo{
		Selector: "sum", Class: p, Stack: 2, Literals: 18,
		Code: []int{9, 0, 9, 1, 17, plus, 1, 20}, Source: sum,
	})
}

// Example 2.
func TestExampleLiterals(t *testing.T) {
	k, p := world(t)
	source := "at: i | t | t := #(1 'a' #(#b) nil). ^t"
	m := 0
	list := fresh(k, func() { m = compiled(t, k, p, source) })
	if i := infoOf(t, k, m); i.Args != 1 || i.Temps != 2 || i.Stack != 1 || i.Selector != "at:" || i.Source != source {
		t.Fatalf("Info = %v", i)
	}
	if len(list) != 7 {
		t.Fatalf("%d objects are allocated", len(list))
	}
	o := func(i int) int { return 4 * list[i].Oop }
	wantFresh(t, list,
		`10 "a"`,
		fmt.Sprint("11 ", []int{4*symbolOf(t, k, "b") + 2}),
		fmt.Sprint("11 ", []int{3, o(0), o(1), 4}),
		fmt.Sprint("11 ", []int{o(2)}),
		"11 [13 1 27 1 3 31 21 1 3 41]", // Lit 0, StoreTemp 0 1, Pop, Temp 0 1, Return
		fmt.Sprintf("10 %q", source),
		fmt.Sprint("13 ", []int{4*symbolOf(t, k, "at:") + 2, 4 * p, 1, 3, 5, 3, o(3), o(4), o(5)}),
	)
}

// Examples 3 and 4.
func TestExamplesRefused(t *testing.T) {
	k, p := world(t)
	wantRefused(t, k, p, "sum ^z", fault(api.ErrUnknown, 5))
	wantRefused(t, k, p, "", fault(api.ErrSyntax, 0))
	wantRefused(t, k, 1, "sum", fault(api.ErrClass, 0))
	wantDoitRefused(t, k, "^x", fault(api.ErrUnknown, 1))
	m := doit(t, k, "G := 3. ^G")
	wantInfo(t, k, m, api.MethodInfo{
		Class: 5, Stack: 1, Literals: 18, Code: []int{5, 3, 14, 0, 15, 11, 0, 20}, Source: "G := 3. ^G",
	})
}

// Example 5.
func TestExampleMark(t *testing.T) {
	k, p := world(t)
	k.Space().Heap().Mark(1)
	wantRefused(t, k, p, sum, fault(api.ErrMarked, 0))
	wantMark(t, k, 0)
	k.Space().Heap().Mark(4)
	wantRefused(t, k, p, "sum ^z", fault(api.ErrUnknown, 5))
	wantMark(t, k, 4)
	compiled(t, k, p, sum)
	wantMark(t, k, 1)
}

// Examples 6 and 7.
func TestExamplesAgain(t *testing.T) {
	k, p := world(t)
	m := kept(k, compiled(t, k, p, sum))
	plus := symbolOf(t, k, "+")
	wantCheck(t, k, m, fault(api.OK, 0), "y", "x")
	wantCheck(t, k, m, fault(api.ErrUnknown, 5), "y")
	n := again(t, k, m, 1, "y", "x")
	wantInfo(t, k, n, api.MethodInfo{
		Selector: "sum", Class: p, Layout: 1, Stack: 2, Literals: 18,
		Code: []int{9, 1, 9, 0, 17, plus, 1, 20}, Source: sum,
	})
	for _, i := range []int{api.MethodLiterals, api.MethodSource} {
		if at(k, m, i) != at(k, n, i) {
			t.Fatalf("the slot %d names another object", i)
		}
	}
	wantStale(t, k, m, false)
	wantNotAgain(t, k, m, 1, api.ErrUnknown, "y")
	wantNotAgain(t, k, m, -1, api.ErrArg, "x", "y")
	wantCheck(t, k, 99, fault(api.ErrArg, 0))
	if i, e := method.Info(k, 1); fmt.Sprint(i) != fmt.Sprint(api.MethodInfo{}) || e != api.ErrArg {
		t.Fatalf("Info(1) = %v, %d", i, e)
	}
}

// P15.1: without a kernel, and with one that no call made.
func TestNoKernel(t *testing.T) {
	for _, k := range []*class.Kernel{nil, new(class.Kernel)} {
		for _, n := range numbersTo(30) {
			wantRefused(t, k, n, "foo", fault(api.ErrNil, 0))
			wantCheck(t, k, n, fault(api.ErrNil, 0), "x")
			wantNotAgain(t, k, n, n, api.ErrNil, "x")
			if i, e := method.Info(k, n); fmt.Sprint(i) != fmt.Sprint(api.MethodInfo{}) || e != api.ErrNil {
				t.Fatalf("Info = %v, %d", i, e)
			}
			wantStale(t, k, n, false)
		}
		wantRefused(t, k, 4, "(", fault(api.ErrNil, 0))
		wantDoitRefused(t, k, "^1", fault(api.ErrNil, 0))
		wantDoitRefused(t, k, "(", fault(api.ErrNil, 0))
	}
}

// P15.1: what is handed in stays, spare room too; what is answered is new.
func TestLists(t *testing.T) {
	k, p := world(t)
	m := kept(k, compiled(t, k, p, sum))
	room := []string{"y", "x", "spare", "room"}
	fields := room[:2]
	method.Check(k, m, fields)
	method.Check(k, m, fields[:1])
	again(t, k, m, 1, fields...)
	if _, e := method.Again(k, m, fields, 7); e != api.OK {
		t.Fatalf("Again = %d", e)
	}
	if !slices.Equal(room, []string{"y", "x", "spare", "room"}) {
		t.Fatalf("the fields are %q", room)
	}
	if a, b := method.Check(k, m, nil), method.Check(k, m, []string{}); a != b {
		t.Fatalf("Check = %v, %v", a, b)
	}
	a, b := infoOf(t, k, m).Code, infoOf(t, k, m).Code
	want := slices.Clone(a)
	for i := range b[:cap(b)] {
		b[:cap(b)][i] = -1
	}
	if !slices.Equal(a, want) || !slices.Equal(infoOf(t, k, m).Code, want) {
		t.Fatalf("the code is %d, want %d", a, want)
	}
}

// P15.7: two compiles of one source are alike, but for their literals.
func TestAlike(t *testing.T) {
	k, p := world(t)
	for _, source := range []string{sum, "foo: a ^#(1 'a' #b) , 'c'", "+ a ^[:b | b value: a] value: 'd'", "foo"} {
		m, n := kept(k, compiled(t, k, p, source)), kept(k, compiled(t, k, p, source))
		a, b := infoOf(t, k, m), infoOf(t, k, n)
		if m == n || (a.Literals == b.Literals) != (a.Literals == 18) {
			t.Fatalf("%q: %d, %d, with the literals %d, %d", source, m, n, a.Literals, b.Literals)
		}
		b.Literals = a.Literals
		if fmt.Sprint(a) != fmt.Sprint(b) {
			t.Fatalf("%q: %v, %v", source, a, b)
		}
	}
}
