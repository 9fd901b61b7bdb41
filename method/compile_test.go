package method_test

import (
	"fmt"
	"slices"
	"strings"
	"testing"

	"kiln/api"
	"kiln/class"
	"kiln/method"
	"kiln/symbol"
)

// rich is a source with literals of every kind, some of them within others.
const rich = "lay ^#(1 -2 'a' #b #(true #(nil 'c') false) #()) foo: 'a' bar: #() baz: '' zoo: #(#b)"

// P15.2, M3: what is allocated, in which order, and what it holds.
func TestAllocations(t *testing.T) {
	k, p := world(t)
	m := 0
	list := fresh(k, func() { m = compiled(t, k, p, rich) })
	if len(list) != 12 || m != list[11].Oop {
		t.Fatalf("%d objects are allocated, the method is %d", len(list), m)
	}
	o := func(i int) int { return 4 * list[i].Oop }
	b := 4*symbolOf(t, k, "b") + 2
	foo := symbolOf(t, k, "foo:bar:baz:zoo:")
	// Lit 0 to Lit 4, Send foo:bar:baz:zoo: 4, Return
	code := []int{13, 1, 13, 3, 13, 5, 13, 7, 13, 9, 35, 2*foo + 1, 9, 41}
	wantFresh(t, list,
		`10 "a"`,
		`10 "c"`,
		fmt.Sprint("11 ", []int{4, o(1)}),
		fmt.Sprint("11 ", []int{12, o(2), 8}),
		fmt.Sprint("11 ", []int{3, -3, o(0), b, o(3), 72}),
		`10 "a"`,
		`10 ""`,
		fmt.Sprint("11 ", []int{b}),
		fmt.Sprint("11 ", []int{o(4), o(5), 72, o(6), o(7)}),
		fmt.Sprint("11 ", code),
		fmt.Sprintf("10 %q", rich),
		fmt.Sprint("13 ", []int{4*symbolOf(t, k, "lay") + 2, 4 * p, 1, 1, 1, 11, o(8), o(9), o(10)}),
	)
}

// P15.2, M3: of an empty Array nothing is allocated, of an empty text and an empty source a String is.
func TestEmptyOnes(t *testing.T) {
	k, p := world(t)
	for _, c := range []struct {
		source string
		n      int
	}{{"", 3}, {"^1", 3}, {"^#()", 4}, {"^#() == #()", 4}, {"^#(#() #())", 5}, {"^''", 5}, {"^'' , ''", 6}, {"^#('')", 6}} {
		if list := fresh(k, func() { doit(t, k, c.source) }); len(list) != c.n {
			t.Fatalf("Doit(%q) allocates %d objects, want %d", c.source, len(list), c.n)
		}
	}
	m := doit(t, k, "")
	wantInfo(t, k, m, api.MethodInfo{Class: 5, Stack: 1, Literals: 18, Code: []int{1, 20}})
	if n := len(fresh(k, func() { compiled(t, k, p, "foo") })); n != 3 {
		t.Fatalf("a method without a body allocates %d objects", n)
	}
	two := infoOf(t, k, kept(k, doit(t, k, "^'a' , 'a'"))).Literals
	if at(k, two, 0) == at(k, two, 1) {
		t.Fatal("two texts are one object")
	}
	two = infoOf(t, k, kept(k, doit(t, k, "^#(1) , #(1)"))).Literals
	if at(k, two, 0) == at(k, two, 1) {
		t.Fatal("two arrays are one object")
	}
	two = infoOf(t, k, kept(k, doit(t, k, "^#() , #()"))).Literals
	if at(k, two, 0) != 72 || at(k, two, 1) != 72 {
		t.Fatal("the empty Array is not the kernel's")
	}
}

// P15.2: whose class's fields, which classes and globals names mean, and the class's layout number.
func TestNames(t *testing.T) {
	k, p := world(t)
	q := defined(t, k, "Q", "P", "z")
	k.Global("H")
	k.Space().Heap().Put(q, api.ClassLayout, 2*7+1)
	m := compiled(t, k, q, "foo: a z := x. H := Q. G := Object. ^a")
	wantInfo(t, k, m, api.MethodInfo{
		Selector: "foo:", Class: q, Layout: 7, Args: 1, Temps: 1, Stack: 1, Literals: 18,
		Code:   []int{9, 0, 12, 2, 15, 8, 16, 14, 1, 15, 8, 1, 14, 0, 15, 10, 0, 0, 20},
		Source: "foo: a z := x. H := Q. G := Object. ^a",
	})
	wantRefused(t, k, p, "foo: a z := x. H := Q. G := Object. ^a", fault(api.ErrUnknown, 7))
	wantRefused(t, k, q, "foo |z|", fault(api.ErrTwice, 5))
	wantRefused(t, k, q, "foo Q := 1", fault(api.ErrStore, 4))
	wantDoitRefused(t, k, "z := 1", fault(api.ErrUnknown, 0))
	compiled(t, k, 4, "foo ^self")
	for n := range 14 {
		oop, _ := k.Numbered(n + 1)
		if i := infoOf(t, k, compiled(t, k, oop, "foo ^super bar")); i.Class != oop {
			t.Fatalf("the class is %d, want %d", i.Class, oop)
		}
		wantRefused(t, k, oop, "foo ^x", fault(api.ErrUnknown, 5))
	}
	k.Space().Heap().Put(5, api.ClassLayout, 2*9+1)
	if i := infoOf(t, k, doit(t, k, "")); i.Layout != 9 {
		t.Fatalf("a doit's layout number is %d", i.Layout)
	}
}

// P15.2: the first fault is the answer: the class, lexing, parsing, names, symbols, code.
func TestFaults(t *testing.T) {
	k, p := world(t)
	long := "foo" + strings.Repeat(" ", api.MaxSource-3)
	for _, c := range []struct {
		source string
		want   api.Fault
	}{
		{"a 'b", fault(api.ErrToken, 2)},
		{"( 'b", fault(api.ErrToken, 2)},
		{long + " ", fault(api.ErrLong, 4096)},
		{"foo ^zz. (", fault(api.ErrSyntax, 9)},
		{"foo ^zz", fault(api.ErrUnknown, 5)},
		{"foo ^zz" + strings.Repeat(".", 2), fault(api.ErrSyntax, 8)},
		{"foo " + strings.Repeat("(", 25) + "zz" + strings.Repeat(")", 25), fault(api.ErrDeep, 28)},
		{"foo: a a := 1", fault(api.ErrStore, 7)},
		{"foo |self|", fault(api.ErrReserved, 5)},
		{"foo " + strings.Repeat("'a'. ", 65), fault(api.ErrLong, 4+64*5)},
		{"foo zz. " + strings.Repeat("'a'. ", 65), fault(api.ErrUnknown, 4)},
		{"self", fault(api.ErrSyntax, 0)},
		{"^1", fault(api.ErrSyntax, 0)},
	} {
		was := seen(k)
		wantRefused(t, k, p, c.source, c.want)
		if seen(k) != was {
			t.Fatalf("%.40q has changed something", c.source)
		}
	}
	for _, class := range numbersTo(22) {
		if _, e := k.Number(class); e != api.OK {
			wantRefused(t, k, class, "'", fault(api.ErrClass, 0))
			wantRefused(t, k, class, sum, fault(api.ErrClass, 0))
		}
	}
	if i := infoOf(t, k, compiled(t, k, p, long)); i.Source != long {
		t.Fatal("the longest source is another one")
	}
	if i := infoOf(t, k, doit(t, k, "^'\xff\x00\x80'")); i.Source != "^'\xff\x00\x80'" {
		t.Fatalf("the source is %q", i.Source)
	}
}

// few is the kernel with so many symbols more than it has at most.
func few(t *testing.T, k *class.Kernel, more int) *class.Kernel {
	t.Helper()
	all := k.Symbols().All()
	x, e := symbol.Load(all, len(all)+more)
	if e != api.OK {
		t.Fatalf("Load = %d", e)
	}
	over, e := class.Over(k.Space(), x)
	if e != api.OK {
		t.Fatalf("Over = %d", e)
	}
	return over
}

// P15.2, P15.3: the selector is added first, then what the code names; a refused one gives all back.
func TestSymbols(t *testing.T) {
	known, p := world(t)
	// Names are resolved ahead of all symbols.
	wantRefused(t, few(t, known, 0), p, "  foo ^zoo", fault(api.ErrUnknown, 7))
	source := "  foo ^#one bar: #(#two #three) + x zoo"
	for more, want := range []api.Fault{
		fault(api.ErrSymbols, 2),  // foo
		fault(api.ErrSymbols, 7),  // one
		fault(api.ErrSymbols, 19), // two
		fault(api.ErrSymbols, 24), // three
		fault(api.ErrSymbols, 36), // zoo
		fault(api.ErrSymbols, 32), // +
		fault(api.ErrSymbols, 12), // bar:
	} {
		k := few(t, known, more)
		was := seen(k)
		wantRefused(t, k, p, source, want)
		if seen(k) != was {
			t.Fatalf("with %d symbols more something has changed", more)
		}
	}
	k := few(t, known, 7)
	n := k.Symbols().Count()
	compiled(t, k, p, source)
	if all := k.Symbols().All()[n:]; !slices.Equal(all, []string{"foo", "one", "two", "three", "zoo", "+", "bar:"}) {
		t.Fatalf("the symbols %q are added", all)
	}
	compiled(t, k, p, source)
	wantRefused(t, k, p, "bad", fault(api.ErrSymbols, 0))
	wantDoitRefused(t, k, "self bad", fault(api.ErrSymbols, 5))
	doit(t, k, "self foo")
}

// P15.2: a doit adds no symbol for a selector.
func TestDoitAddsNone(t *testing.T) {
	k, _ := world(t)
	n := k.Symbols().Count()
	m := doit(t, k, "^G")
	if k.Symbols().Count() != n || at(k, m, api.MethodSelector) != 4 {
		t.Fatalf("%q, the selector %d", k.Symbols().All()[n:], at(k, m, api.MethodSelector))
	}
	doit(t, k, "^G foo; bar")
	if all := k.Symbols().All()[n:]; !slices.Equal(all, []string{"foo", "bar"}) {
		t.Fatalf("the symbols %q are added", all)
	}
}

// P15.3: with each mark; a refused one gives back, but for the mark that hit.
func TestMarks(t *testing.T) {
	for mark := 1; mark <= 14; mark++ {
		k, p := world(t)
		was := reached(k)
		k.Space().Heap().Mark(mark)
		if mark <= 12 {
			wantRefused(t, k, p, rich, fault(api.ErrMarked, 0))
			wantMark(t, k, 0)
			if reached(k) != was {
				t.Fatalf("the mark %d has changed something", mark)
			}
		}
		compiled(t, k, p, rich)
		wantMark(t, k, max(0, mark-12))
	}
	k, p := world(t)
	for _, mark := range []int{1, 3, api.MaxMark} {
		k.Space().Heap().Mark(mark)
		for _, source := range []string{"foo ^zz", "foo ^x + y)", "'", "foo " + strings.Repeat("'a'. ", 65)} {
			if _, f := method.Compile(k, p, source); f.Code == api.OK {
				t.Fatalf("Compile(%q) is OK", source)
			}
			wantMark(t, k, mark)
		}
		wantRefused(t, k, 1, sum, fault(api.ErrClass, 0))
		wantMark(t, k, mark)
	}
}

// words is how many a source of a method of P takes, by the table M3.
func words(source int, code int, others ...int) int {
	n := 2 + 9 + 2 + code + 2 + (source+3)/4
	for _, more := range others {
		n += more
	}
	return n
}

// richWords is what the objects of rich take: the texts, then the Arrays, that of the literals last.
func richWords() int {
	return words(len(rich), 14, 3, 3, 4, 5, 8, 3, 2, 3, 7)
}

// fill keeps an object that leaves so many words; there must be no garbage.
func fill(t *testing.T, k *class.Kernel, left int) {
	t.Helper()
	k.Space().Collect()
	room, _ := k.Space().Heap().Room()
	for room-left > 2 {
		n := min(room-left-2, api.MaxSlots)
		w, e := k.Space().Alloc(4*api.Array, n, 0)
		if e != api.OK {
			t.Fatalf("Alloc = %d", e)
		}
		k.Space().Keep(w)
		room -= n + 2
	}
	if room != left {
		t.Fatalf("%d words are left, not %d", room, left)
	}
}

// P15.2, P15.3, P15.7: with each room; what there is no room for gives back symbols and the mark's count.
func TestRooms(t *testing.T) {
	need := richWords()
	for left := 0; left <= need; left++ {
		k, p := world(t)
		fill(t, k, left)
		k.Space().Heap().Mark(20)
		was := reached(k)
		if left < need {
			wantRefused(t, k, p, rich, fault(api.ErrFull, 0))
			wantMark(t, k, 20)
			if reached(k) != was {
				t.Fatalf("something has changed with %d words", left)
			}
			continue
		}
		kept(k, compiled(t, k, p, rich))
		wantMark(t, k, 8)
		if words, _ := k.Space().Room(); words != 0 {
			t.Fatalf("%d words are left", words)
		}
	}
	for oops := 0; oops <= 12; oops++ {
		known, _ := world(t)
		k, p := worldOf(t, 6000, len(known.Space().Heap().All())+oops)
		was := reached(k)
		if oops < 12 {
			wantRefused(t, k, p, rich, fault(api.ErrFull, 0))
			if reached(k) != was {
				t.Fatalf("something has changed with %d oops", oops)
			}
			continue
		}
		compiled(t, k, p, rich)
	}
}

// wantRich holds a method of rich against what it must be, literals and all.
func wantRich(t *testing.T, k *class.Kernel, m int) {
	t.Helper()
	i := infoOf(t, k, m)
	if i.Source != rich || i.Selector != "lay" || len(i.Code) != 14 {
		t.Fatalf("Info = %v", i)
	}
	var tell func(w api.Word) string
	tell = func(w api.Word) string {
		n, format, e := k.Space().Heap().Size(int(w) / 4)
		if w%4 != 0 || w <= 16 || e != api.OK {
			return fmt.Sprint(w)
		}
		list := []string{}
		for i := range n {
			if format == 1 {
				list = append(list, fmt.Sprintf("%c", at(k, int(w)/4, i)))
				continue
			}
			list = append(list, tell(at(k, int(w)/4, i)))
		}
		c, _ := k.Space().Heap().Class(int(w) / 4)
		return fmt.Sprintf("%d%v", c/4, list)
	}
	b := 4*symbolOf(t, k, "b") + 2
	want := fmt.Sprintf("11[11[3 -3 10[a] %d 11[12 11[4 10[c]] 8] 11[]] 10[a] 11[] 10[] 11[%d]]", b, b)
	if got := tell(api.Word(4 * i.Literals)); got != want {
		t.Fatalf("the literals are %s, want %s", got, want)
	}
}

// P15.7, M1: a collection may come with every allocation, and takes nothing away that was made.
func TestCollectionsBetween(t *testing.T) {
	need := richWords()
	for litter := range need {
		k, p := world(t)
		fill(t, k, need)
		if litter >= 2 {
			k.Space().Alloc(4*api.Array, litter-2, 0)
		}
		was := k.Space().Kept()
		m := compiled(t, k, p, rich)
		wantRich(t, k, m)
		if !slices.Equal(k.Space().Kept(), was) {
			t.Fatalf("%d are kept, want %d", k.Space().Kept(), was)
		}
	}
}

// P15.2, P15.7: what was compiled is garbage: there is room for it again and again.
func TestGarbage(t *testing.T) {
	k, p := world(t)
	fill(t, k, richWords()+5)
	for range 100 {
		wantRich(t, k, compiled(t, k, p, rich))
	}
	words, oops := k.Space().Room()
	if words != richWords()+5 {
		t.Fatalf("Room = %d, %d", words, oops)
	}
	kept(k, compiled(t, k, p, rich))
	if words, less := k.Space().Room(); words != 5 || less != oops-12 {
		t.Fatalf("Room = %d, %d", words, less)
	}
}

// P15.7: in a bracket nothing is collected.
func TestBracket(t *testing.T) {
	k, p := world(t)
	fill(t, k, richWords()+words(len(sum), 8))
	k.Space().Begin()
	n := k.Symbols().Count()
	compiled(t, k, p, sum)
	wantRich(t, k, compiled(t, k, p, rich))
	symbols := k.Symbols().Count()
	wantRefused(t, k, p, "another ^1", fault(api.ErrFull, 0))
	if k.Symbols().Count() != symbols || symbols == n {
		t.Fatalf("%d symbols", k.Symbols().Count())
	}
	k.Space().Abort()
	wantRich(t, k, compiled(t, k, p, rich))
}

// P15.7: the stack is as it was behind each call, whatever it answers.
func TestKept(t *testing.T) {
	k, p := world(t)
	m := kept(k, compiled(t, k, p, sum))
	k.Space().Keep(3, 2, 76)
	was := k.Space().Kept()
	hold := func(what string) {
		t.Helper()
		if !slices.Equal(k.Space().Kept(), was) {
			t.Fatalf("behind %s %d are kept, want %d", what, k.Space().Kept(), was)
		}
	}
	for mark := range 14 {
		k.Space().Heap().Mark(mark)
		method.Compile(k, p, rich)
		hold("Compile")
		k.Space().Heap().Mark(mark)
		method.Doit(k, "^#(1 'a' #(#b))")
		hold("Doit")
		k.Space().Heap().Mark(mark)
		method.Again(k, m, []string{"y", "x"}, 1)
		hold("Again")
		method.Check(k, m, []string{"y"})
		method.Check(k, m, []string{"x", "y"})
		hold("Check")
	}
}
