package dict_test

import (
	"fmt"
	"math"
	"slices"
	"strconv"
	"strings"
	"testing"

	"kiln/api"
	"kiln/class"
	"kiln/dict"
)

// farInts is ints that are no oop of a class in a small kernel, and no number of a symbol.
var farInts = []int{-1, -4, 999, 65536, 65537, 1 << 30, 1<<32 + 4, math.MaxInt, math.MinInt, math.MaxInt / 2, math.MinInt/2 + 4}

func booted(t *testing.T, words, oops int) (*class.Kernel, *dict.Book) {
	t.Helper()
	k, e := class.Boot(words, oops)
	if e != api.OK {
		t.Fatalf("Boot(%d, %d) = %d", words, oops, e)
	}
	return k, newBook(t, k)
}

func newBook(t *testing.T, k *class.Kernel) *dict.Book {
	t.Helper()
	b, e := dict.New(k)
	if b == nil || e != api.OK {
		t.Fatalf("New = %v, %d", b, e)
	}
	return b
}

func defined(t *testing.T, k *class.Kernel, name, super string, own ...string) int {
	t.Helper()
	oop, e := k.Define(name, super, own)
	if e != api.OK {
		t.Fatalf("Define(%q, %q) = %d", name, super, e)
	}
	return oop
}

// added is the number of a text's symbol, which is there from now on.
func added(t *testing.T, k *class.Kernel, text string) int {
	t.Helper()
	n, e := k.Symbols().Add(text)
	if e != api.OK {
		t.Fatalf("Add(%q) = %d", text, e)
	}
	return n
}

// loose is an object that nothing leads to.
func loose(t *testing.T, k *class.Kernel, n int) int {
	t.Helper()
	w, e := k.Space().Alloc(4*api.String, n, api.FormatBytes)
	if e != api.OK {
		t.Fatalf("Alloc = %d", e)
	}
	return int(w) / 4
}

// kept is an object that the space keeps.
func kept(t *testing.T, k *class.Kernel) int {
	t.Helper()
	oop := loose(t, k, 3)
	k.Space().Keep(api.Word(4 * oop))
	return oop
}

func wantErr(t *testing.T, what string, got, want api.Errno) {
	t.Helper()
	if got != want {
		t.Fatalf("%s = %d, want %d", what, got, want)
	}
}

func wantAt(t *testing.T, b *dict.Book, class int, selector string, want int, wantE api.Errno) {
	t.Helper()
	if m, e := b.At(class, selector); m != want || e != wantE {
		t.Fatalf("At(%d, %q) = %d, %d, want %d, %d", class, selector, m, e, want, wantE)
	}
}

func wantLookup(t *testing.T, b *dict.Book, class, symbol, want, wantIn int) {
	t.Helper()
	if m, c := b.Lookup(class, symbol); m != want || c != wantIn {
		t.Fatalf("Lookup(%d, %d) = %d, %d, want %d, %d", class, symbol, m, c, want, wantIn)
	}
}

func wantHits(t *testing.T, b *dict.Book, want int) {
	t.Helper()
	if b.Hits() != want {
		t.Fatalf("Hits = %d, want %d", b.Hits(), want)
	}
}

func wantSelectors(t *testing.T, b *dict.Book, class int, want ...string) {
	t.Helper()
	if list := b.Selectors(class); !slices.Equal(list, want) {
		t.Fatalf("Selectors(%d) = %q, want %q", class, list, want)
	}
}

// fill keeps an object that leaves so many words; there must be no garbage.
func fill(t *testing.T, k *class.Kernel, left int) {
	t.Helper()
	words, _ := k.Space().Heap().Room()
	w, e := k.Space().Alloc(4*api.Array, words-left-2, 0)
	if e != api.OK {
		t.Fatalf("Alloc = %d", e)
	}
	k.Space().Keep(w)
}

// arrayAt is what the Array that a class's slot names holds.
func arrayAt(t *testing.T, k *class.Kernel, class, slot int) []api.Word {
	t.Helper()
	h := k.Space().Heap()
	w, _ := h.At(class, slot)
	oop := int(w) / 4
	n, format, e := h.Size(oop)
	of, _ := h.Class(oop)
	if e != api.OK || format != 0 || of != 4*api.Array || (n == 0) != (oop == api.Empty) {
		t.Fatalf("the slot %d of %d names %d, of the class %d, with %d slots", slot, class, oop, of, n)
	}
	var list []api.Word
	for i := range n {
		w, _ := h.At(oop, i)
		list = append(list, w)
	}
	return list
}

// wantDictionary holds a class's dictionary, as it lies in the heap and as the
// book tells it, against these methods.
func wantDictionary(t *testing.T, k *class.Kernel, b *dict.Book, class int, want map[string]int) {
	t.Helper()
	var names []string
	for s := range want {
		names = append(names, s)
	}
	slices.Sort(names)
	var selectors, methods []api.Word
	for _, s := range names {
		n, _ := k.Symbols().Find(s)
		selectors = append(selectors, api.Word(4*n+2))
		methods = append(methods, api.Word(4*want[s]))
		wantAt(t, b, class, s, want[s], api.OK)
	}
	wantSelectors(t, b, class, names...)
	if list := arrayAt(t, k, class, api.ClassSelectors); !slices.Equal(list, selectors) {
		t.Fatalf("the selectors of %d are %d, want %d", class, list, selectors)
	}
	if list := arrayAt(t, k, class, api.ClassMethods); !slices.Equal(list, methods) {
		t.Fatalf("the methods of %d are %d, want %d", class, list, methods)
	}
}

// seen is all that there is to be seen of a kernel and its dictionaries, but for garbage and the mark.
func seen(k *class.Kernel, b *dict.Book) string {
	var out strings.Builder
	for n := range k.Count() {
		oop, _ := k.Numbered(n + 1)
		x, _ := k.Info(oop)
		fmt.Fprintln(&out, oop, x)
		for _, s := range b.Selectors(oop) {
			m, e := b.At(oop, s)
			fmt.Fprintln(&out, s, m, e)
		}
	}
	words, oops := k.Space().Room()
	fmt.Fprintln(&out, words, oops, k.Space().Kept(), k.Symbols().All(), k.Globals())
	return out.String()
}

// The chapter's examples, in their order.
func TestExamples(t *testing.T) {
	k, b := booted(t, 1000, 100)
	p := defined(t, k, "P", "Object", "x")
	if p != 22 {
		t.Fatalf("P is %d", p)
	}
	q := defined(t, k, "Q", "P")
	m, n := kept(t, k), kept(t, k)
	wantSelectors(t, b, p)
	wantAt(t, b, p, "foo", 0, api.ErrSelector)
	wantErr(t, "Put", b.Put(p, "foo", m), api.ErrSymbol)
	foo := added(t, k, "foo")
	wantErr(t, "Put", b.Put(p, "foo", m), api.OK)
	wantAt(t, b, p, "foo", m, api.OK)
	wantSelectors(t, b, p, "foo")

	added(t, k, "bar")
	wantErr(t, "Put", b.Put(p, "bar", n), api.OK)
	wantSelectors(t, b, p, "bar", "foo")
	before := k.Space().Heap().All()
	wantErr(t, "Put", b.Put(p, "foo", n), api.OK)
	wantAt(t, b, p, "foo", n, api.OK)
	if !slices.Equal(k.Space().Heap().All(), before) {
		t.Fatal("something was allocated")
	}

	wantLookup(t, b, q, foo, n, p)
	wantHits(t, b, 0)
	wantLookup(t, b, q, foo, n, p)
	wantHits(t, b, 1)
	wantErr(t, "Put", b.Put(q, "foo", m), api.OK)
	wantLookup(t, b, q, foo, m, q)

	wantErr(t, "Remove", b.Remove(q, "foo"), api.OK)
	wantLookup(t, b, q, foo, n, p)
	wantErr(t, "Remove", b.Remove(q, "foo"), api.ErrSelector)
	wantDictionary(t, k, b, q, nil)

	wantLookup(t, b, 4, foo, 0, 0)
	wantLookup(t, b, 1, foo, 0, 0)

	wantErr(t, "Put", b.Put(p, "foo", 99), api.ErrOop)
	wantErr(t, "Put", b.Put(1, "foo", m), api.ErrClass)
}

// P14.1: no kernel, no book.
func TestNew(t *testing.T) {
	if b, e := dict.New(nil); b != nil || e != api.ErrNil {
		t.Fatalf("New(nil) = %v, %d", b, e)
	}
	k, b := booted(t, 1000, 100)
	foo := added(t, k, "foo")
	wantErr(t, "Put", b.Put(4, "foo", 18), api.OK)
	wantLookup(t, b, 4, foo, 18, 4)
	wantLookup(t, b, 4, foo, 18, 4)
	// A book has a cache of its own, which is empty.
	c := newBook(t, k)
	wantLookup(t, c, 4, foo, 18, 4)
	wantHits(t, c, 0)
	wantHits(t, b, 1)
	wantSelectors(t, c, 4, "foo")
}

// mixed is texts whose order by bytes is not that by letters, by lengths or by the time they came.
func mixed() []string {
	return []string{
		"foo", "Foo", "foo:", "fo", "foo:bar:", "foo:bar", "+", "//", "-", "~=", "a", "B", "aB", "ab", "Ab",
		"z", "\xff", "\xc3\xa4", "\x00", "a\x00", "at:put:", "at:", "at", "\x80", "_", strings.Repeat("y", 96), "x9", "x10", "nil", "Object",
	}
}

// P14.2: the selectors rise byte by byte, and the methods stand as they do,
// from whichever side the dictionary grows and shrinks.
func TestOrder(t *testing.T) {
	orders := [][]string{mixed(), mixed(), mixed(), mixed()}
	slices.Sort(orders[1])
	slices.Sort(orders[2])
	slices.Reverse(orders[2])
	slices.Reverse(orders[3])
	for _, list := range orders {
		k, b := booted(t, 4000, 400)
		p := defined(t, k, "P", "Object")
		want := map[string]int{}
		for _, s := range mixed() {
			added(t, k, s)
		}
		for i, s := range list {
			want[s] = 1 + i%20
			wantErr(t, "Put", b.Put(p, s, want[s]), api.OK)
			wantDictionary(t, k, b, p, want)
		}
		for _, s := range mixed() {
			wantErr(t, "Remove", b.Remove(p, s), api.OK)
			delete(want, s)
			wantAt(t, b, p, s, 0, api.ErrSelector)
			wantDictionary(t, k, b, p, want)
		}
	}
}

// P14.2: a class's own selectors alone, and each once.
func TestAt(t *testing.T) {
	k, b := booted(t, 2000, 200)
	p := defined(t, k, "P", "Object")
	q := defined(t, k, "Q", "P")
	for _, s := range []string{"foo", "bar", "x"} {
		added(t, k, s)
	}
	wantErr(t, "Put", b.Put(p, "foo", 18), api.OK)
	wantErr(t, "Put", b.Put(4, "bar", 19), api.OK)
	wantErr(t, "Put", b.Put(p, "foo", 20), api.OK)
	wantErr(t, "Put", b.Put(p, "foo", 20), api.OK)
	wantDictionary(t, k, b, p, map[string]int{"foo": 20})
	wantDictionary(t, k, b, q, nil)
	wantDictionary(t, k, b, 4, map[string]int{"bar": 19})
	for _, s := range []string{"", "bar", "fo", "fooo", "x", "Foo", "foo:", "nope", strings.Repeat("f", 1<<16)} {
		wantAt(t, b, p, s, 0, api.ErrSelector)
		wantErr(t, "Remove", b.Remove(p, s), api.ErrSelector)
	}
	wantAt(t, b, q, "foo", 0, api.ErrSelector)
	wantErr(t, "Remove", b.Remove(q, "foo"), api.ErrSelector)
	wantDictionary(t, k, b, p, map[string]int{"foo": 20})
}

// P14.2 to P14.4: oops that are no class's.
func TestNoClass(t *testing.T) {
	k, b := booted(t, 1000, 100)
	foo := added(t, k, "foo")
	wantErr(t, "Put", b.Put(4, "foo", 18), api.OK)
	p := defined(t, k, "P", "Object")
	like, _ := k.Space().Alloc(4*api.Class, 7, 0)
	for i := range 7 {
		w, _ := k.Space().Heap().At(p, i)
		k.Space().Heap().Put(int(like)/4, i, w)
	}
	for _, oop := range append(slices.Clone(farInts), 0, 1, 2, 3, 18, 19, int(like)/4) {
		if list := b.Selectors(oop); len(list) != 0 {
			t.Fatalf("Selectors(%d) = %q", oop, list)
		}
		for _, s := range []string{"foo", "nope", ""} {
			wantAt(t, b, oop, s, 0, api.ErrClass)
			for _, m := range []int{18, 999} {
				wantErr(t, "Put", b.Put(oop, s, m), api.ErrClass)
			}
			wantErr(t, "Remove", b.Remove(oop, s), api.ErrClass)
		}
		for range 2 {
			wantLookup(t, b, oop, foo, 0, 0)
		}
	}
	wantHits(t, b, 0)
}

// P14.3: each error ahead of all that come behind it.
func TestPutOrder(t *testing.T) {
	k, b := booted(t, 2000, 40)
	for i := range api.MaxMethods {
		added(t, k, "m"+strconv.Itoa(i))
		wantErr(t, "Put", b.Put(5, "m"+strconv.Itoa(i), 18), api.OK)
	}
	added(t, k, "foo")
	k.Space().Collect()
	fill(t, k, 0)
	k.Space().Heap().Mark(1)
	was := seen(k, b)
	wantErr(t, "Put", b.Put(19, "nope", 99), api.ErrClass)
	wantErr(t, "Put", b.Put(5, "nope", 99), api.ErrSymbol)
	wantErr(t, "Put", b.Put(5, "", 99), api.ErrSymbol)
	wantErr(t, "Put", b.Put(5, strings.Repeat("f", 1<<16), 99), api.ErrSymbol)
	for _, m := range append(slices.Clone(farInts), 0, 39) {
		wantErr(t, "Put", b.Put(5, "foo", m), api.ErrOop)
		wantErr(t, "Put", b.Put(5, "m7", m), api.ErrOop)
	}
	// All words are taken: still ErrCount.
	wantErr(t, "Put", b.Put(5, "foo", 18), api.ErrCount)
	wantErr(t, "Put", b.Put(6, "foo", 18), api.ErrFull)
	if seen(k, b) != was || k.Space().Heap().Marked() != 1 {
		t.Fatalf("%s, want %s", seen(k, b), was)
	}
	// One that is there needs no room, and no count.
	wantErr(t, "Put", b.Put(5, "m7", 19), api.OK)
	wantAt(t, b, 5, "m7", 19, api.OK)
	if k.Space().Heap().Marked() != 1 || len(b.Selectors(5)) != api.MaxMethods {
		t.Fatalf("the mark %d, %d selectors", k.Space().Heap().Marked(), len(b.Selectors(5)))
	}
}

// P14.3: 128 methods of one class make no difference to another one.
func TestCount(t *testing.T) {
	k, b := booted(t, 4000, 400)
	p := defined(t, k, "P", "Object")
	q := defined(t, k, "Q", "P")
	want := map[string]int{}
	for i := range api.MaxMethods {
		s := "m" + strconv.Itoa(i*37%128)
		added(t, k, s)
		want[s] = 1 + i%20
		wantErr(t, "Put", b.Put(p, s, want[s]), api.OK)
	}
	wantDictionary(t, k, b, p, want)
	added(t, k, "more")
	wantErr(t, "Put", b.Put(p, "more", 18), api.ErrCount)
	wantErr(t, "Put", b.Put(q, "more", 18), api.OK)
	wantErr(t, "Remove", b.Remove(p, "m100"), api.OK)
	wantErr(t, "Put", b.Put(p, "more", 18), api.OK)
	wantErr(t, "Put", b.Put(p, "m100", 18), api.ErrCount)
	delete(want, "m100")
	want["more"] = 18
	wantDictionary(t, k, b, p, want)
}

// P14.3, P14.4: the two Arrays, each one longer or shorter, the selectors first.
func TestAllocates(t *testing.T) {
	k, b := booted(t, 2000, 200)
	added(t, k, "foo")
	added(t, k, "bar")
	h := k.Space().Heap()
	made := func(what string, e api.Errno, want ...[]api.Word) {
		t.Helper()
		wantErr(t, what, e, api.OK)
		objects := h.State().Objects
		objects = objects[len(objects)-len(want):]
		for i, o := range objects {
			if o.Class != 4*api.Array || o.Format != 0 || !slices.Equal(o.Slots, want[i]) {
				t.Fatalf("%s made %v, want %d", what, objects, want)
			}
		}
	}
	foo, _ := k.Symbols().Find("foo")
	f, r := api.Word(4*foo+2), api.Word(4*foo+6)
	for _, c := range []struct {
		do      func() api.Errno
		what    string
		objects int
		lists   [][]api.Word
	}{
		{func() api.Errno { return b.Put(4, "foo", 18) }, "Put foo", 22, [][]api.Word{{f}, {72}}},
		{func() api.Errno { return b.Put(4, "bar", 19) }, "Put bar", 24, [][]api.Word{{r, f}, {76, 72}}},
		{func() api.Errno { return b.Put(4, "foo", 20) }, "Put foo again", 24, [][]api.Word{{r, f}, {76, 80}}},
		{func() api.Errno { return b.Remove(4, "bar") }, "Remove bar", 26, [][]api.Word{{f}, {80}}},
		{func() api.Errno { return b.Remove(4, "foo") }, "Remove foo", 26, [][]api.Word{{f}, {80}}},
	} {
		made(c.what, c.do(), c.lists...)
		if len(h.All()) != c.objects {
			t.Fatalf("behind %s there are %d objects, want %d", c.what, len(h.All()), c.objects)
		}
	}
	wantDictionary(t, k, b, 4, nil)
}

// change is a Put or a Remove at a dictionary of some selectors.
type change struct {
	what  string
	had   []string
	given bool // whether the method is handed in
	do    func(b *dict.Book, p, m int) api.Errno
	// lengths is how many slots each allocation has.
	lengths []int
	then    []string
}

func changes() []change {
	put := func(b *dict.Book, p, m int) api.Errno { return b.Put(p, "new", m) }
	remove := func(b *dict.Book, p, m int) api.Errno { return b.Remove(p, "foo") }
	return []change{
		{"the first", nil, true, put, []int{1, 1}, []string{"new"}},
		{"the third", []string{"foo", "zoo"}, true, put, []int{3, 3}, []string{"foo", "new", "zoo"}},
		{"another one's place", []string{"new", "foo"}, true, put, nil, []string{"foo", "new"}},
		{"one of three", []string{"foo", "bar", "zoo"}, false, remove, []int{2, 2}, []string{"bar", "zoo"}},
		{"one of two", []string{"foo", "bar"}, false, remove, []int{1, 1}, []string{"bar"}},
		{"the last", []string{"foo"}, false, remove, nil, nil},
	}
}

func (c change) need() int {
	words := 0
	for _, n := range c.lengths {
		words += 2 + n
	}
	return words
}

// changing is a kernel with so many words beside what is live, of which so many
// hold garbage, and a class with that dictionary; nothing leads to the method
// that is to be put.
func changing(t *testing.T, c change, spare, garbage int) (*class.Kernel, *dict.Book, int, int) {
	t.Helper()
	k, b := booted(t, 1000, 60)
	p := defined(t, k, "P", "Object")
	for _, s := range []string{"foo", "bar", "zoo", "new"} {
		added(t, k, s)
	}
	for _, s := range c.had {
		wantErr(t, "Put", b.Put(p, s, 18), api.OK)
	}
	k.Space().Collect()
	m := loose(t, k, 1)
	k.Space().Heap().Put(m, 0, 77)
	fill(t, k, spare)
	if garbage >= 2 {
		k.Space().Alloc(4, garbage-2, 0)
	}
	return k, b, p, m
}

// wantChanged holds the dictionary behind a change against what it should be.
func wantChanged(t *testing.T, c change, k *class.Kernel, b *dict.Book, p, m int) {
	t.Helper()
	want := map[string]int{}
	for _, s := range c.then {
		want[s] = 18
	}
	if c.given {
		want["new"] = m
		if x, e := k.Space().Heap().At(m, 0); x != 77 || e != api.OK {
			t.Fatalf("%s: the method holds %d, %d", c.what, x, e)
		}
	}
	wantDictionary(t, k, b, p, want)
}

// P14.3, P14.4: with each mark the allocation of that number is refused, and
// nothing has changed; the mark's count stays as it has become.
func TestMarks(t *testing.T) {
	for _, c := range changes() {
		for mark := 1; mark <= 4; mark++ {
			k, b, p, m := changing(t, c, 100, 0)
			k.Space().Keep(api.Word(4 * m))
			k.Space().Heap().Mark(mark)
			was := seen(k, b)
			if mark <= len(c.lengths) {
				wantErr(t, c.what, c.do(b, p, m), api.ErrMarked)
				if seen(k, b) != was || k.Space().Heap().Marked() != 0 {
					t.Fatalf("%s: %s, want %s", c.what, seen(k, b), was)
				}
			}
			left := k.Space().Heap().Marked()
			wantErr(t, c.what, c.do(b, p, m), api.OK)
			if left > 0 && k.Space().Heap().Marked() != mark-len(c.lengths) {
				t.Fatalf("%s: the mark %d stands at %d", c.what, mark, k.Space().Heap().Marked())
			}
			wantChanged(t, c, k, b, p, m)
		}
	}
}

// P14.3, P14.4: with each room less than is needed it is refused, and nothing
// has changed but that the mark has counted what was made.
func TestRoom(t *testing.T) {
	for _, c := range changes() {
		for spare := range c.need() + 3 {
			k, b, p, m := changing(t, c, spare, 0)
			k.Space().Keep(api.Word(4 * m))
			k.Space().Heap().Mark(9)
			was := seen(k, b)
			if spare >= c.need() {
				wantErr(t, c.what, c.do(b, p, m), api.OK)
				wantChanged(t, c, k, b, p, m)
				continue
			}
			wantErr(t, c.what, c.do(b, p, m), api.ErrFull)
			made := 0
			if spare >= 2+c.lengths[0] {
				made = 1
			}
			if seen(k, b) != was || k.Space().Heap().Marked() != 9-made {
				t.Fatalf("%s with %d words: the mark stands at %d: %s, want %s", c.what, spare, k.Space().Heap().Marked(), seen(k, b), was)
			}
		}
	}
}

// P14.3: oops that are all taken.
func TestOops(t *testing.T) {
	for oops := 20; oops <= 23; oops++ {
		k, b := booted(t, 1000, oops)
		added(t, k, "foo")
		want := api.ErrFull
		if oops >= 22 {
			want = api.OK
		}
		wantErr(t, "Put", b.Put(4, "foo", 18), want)
	}
}

// M2: a method that nothing leads to lives through the collections that its Put
// brings, and so do the lists.
func TestCollectsMeanwhile(t *testing.T) {
	for _, c := range changes() {
		for garbage := range c.need() + 1 {
			k, b, p, m := changing(t, c, c.need(), garbage)
			stack := k.Space().Kept()
			if !c.given {
				m = 0
			}
			wantErr(t, c.what, c.do(b, p, m), api.OK)
			wantChanged(t, c, k, b, p, m)
			k.Space().Collect()
			wantChanged(t, c, k, b, p, m)
			if !slices.Equal(k.Space().Kept(), stack) {
				t.Fatalf("%s: %d are kept", c.what, k.Space().Kept())
			}
			if !c.given || c.need() == 0 {
				continue
			}
			// With one word less the method is refused, and is there all the same.
			k, b, p, m = changing(t, c, c.need()-1, min(garbage, c.need()-1))
			wantErr(t, c.what, c.do(b, p, m), api.ErrFull)
			if x, e := k.Space().Heap().At(m, 0); x != 77 || e != api.OK {
				t.Fatalf("%s: the method holds %d, %d", c.what, x, e)
			}
		}
	}
}

// P14.3, P14.4: each call leaves on the space's stack what was there.
func TestStack(t *testing.T) {
	for _, c := range changes() {
		for mark := range 3 {
			k, b, p, m := changing(t, c, 20, 0)
			k.Space().Keep(7, api.Word(4*m), 7)
			stack := k.Space().Kept()
			k.Space().Heap().Mark(mark)
			c.do(b, p, m)
			b.Lookup(p, 14)
			b.At(p, "foo")
			if list := k.Space().Kept(); !slices.Equal(list, stack) {
				t.Fatalf("%s: kept is %d, want %d", c.what, list, stack)
			}
		}
	}
	k, b := booted(t, 1000, 100)
	added(t, k, "foo")
	k.Space().Keep(slices.Repeat([]api.Word{7}, api.MaxKept)...)
	b.Put(4, "foo", 18)
	b.Remove(4, "foo")
	if len(k.Space().Kept()) != api.MaxKept {
		t.Fatalf("%d are kept", len(k.Space().Kept()))
	}
}

// M1: between Begin and its end nothing is collected.
func TestBracket(t *testing.T) {
	k, b := booted(t, 160+6, 40)
	added(t, k, "foo")
	k.Space().Begin()
	k.Space().Alloc(4, 0, 0)
	wantErr(t, "Put", b.Put(4, "foo", 18), api.ErrFull)
	wantDictionary(t, k, b, 4, nil)
	wantErr(t, "Abort", k.Space().Abort(), api.OK)
	k.Space().Begin()
	wantErr(t, "Put", b.Put(4, "foo", 18), api.OK)
	wantErr(t, "Commit", k.Space().Commit(), api.OK)
	wantDictionary(t, k, b, 4, map[string]int{"foo": 18})
}

// P14.7: a book that is not there, or that no call made.
func TestNoBook(t *testing.T) {
	k, b := booted(t, 1000, 100)
	foo := added(t, k, "foo")
	wantErr(t, "Put", b.Put(4, "foo", 18), api.OK)
	wantLookup(t, b, 4, foo, 18, 4)
	wantLookup(t, b, 4, foo, 18, 4)
	copied := *b
	for _, none := range []*dict.Book{nil, {}, &copied} {
		if list := none.Selectors(4); len(list) != 0 {
			t.Fatalf("Selectors = %q", list)
		}
		wantAt(t, none, 4, "foo", 0, api.ErrNil)
		wantAt(t, none, 1, "", 0, api.ErrNil)
		wantErr(t, "Put", none.Put(4, "foo", 19), api.ErrNil)
		wantErr(t, "Put", none.Put(1, "nope", 99), api.ErrNil)
		wantErr(t, "Remove", none.Remove(4, "foo"), api.ErrNil)
		wantErr(t, "Remove", none.Remove(1, "nope"), api.ErrNil)
		wantLookup(t, none, 4, foo, 0, 0)
		none.Flush()
		wantHits(t, none, 0)
	}
	wantLookup(t, b, 4, foo, 18, 4)
	wantHits(t, b, 2)
}

// R4: lists are new memory.
func TestMemory(t *testing.T) {
	k, b := booted(t, 1000, 100)
	for _, s := range []string{"foo", "bar", "zoo"} {
		added(t, k, s)
		wantErr(t, "Put", b.Put(4, s, 18), api.OK)
	}
	other := b.Selectors(4)
	list := b.Selectors(4)
	list = list[:cap(list)]
	for i := range list {
		list[i] = "spoilt"
	}
	if !slices.Equal(other, []string{"bar", "foo", "zoo"}) {
		t.Fatalf("Selectors = %q", other)
	}
	wantDictionary(t, k, b, 4, map[string]int{"foo": 18, "bar": 18, "zoo": 18})
}

// P14.7: what is put into one kernel is not seen in another.
func TestTwoKernels(t *testing.T) {
	k, b := booted(t, 1000, 100)
	l, c := booted(t, 1000, 100)
	foo := added(t, k, "foo")
	added(t, l, "foo")
	was := seen(l, c)
	wantErr(t, "Put", b.Put(4, "foo", 18), api.OK)
	wantLookup(t, b, 4, foo, 18, 4)
	wantLookup(t, c, 4, foo, 0, 0)
	wantHits(t, c, 0)
	if seen(l, c) != was {
		t.Fatalf("%s, want %s", seen(l, c), was)
	}
}
