package reshape_test

import (
	"fmt"
	"slices"
	"strconv"
	"strings"
	"testing"

	"kiln/api"
	"kiln/class"
	"kiln/dict"
	"kiln/method"
	"kiln/proc"
	"kiln/reshape"
	"kiln/symbol"
)

const (
	null  = api.Word(4 * api.Nil)
	empty = api.Word(4 * api.Empty)
)

func num(n int) api.Word { return api.Word(2*n + 1) }

func obj(oop int) api.Word { return api.Word(4 * oop) }

func refused(code api.Errno) api.Refusal { return api.Refusal{Code: code} }

// fields is the names in a text.
func fields(text string) []string { return strings.Fields(text) }

// world is a kernel and its book.
type world struct {
	t    *testing.T
	k    *class.Kernel
	b    *dict.Book
	most int // how many symbols it takes
}

// bare is one that has just been booted.
func bare(t *testing.T, words, oops int) *world {
	t.Helper()
	k, e := class.Boot(words, oops)
	if e != api.OK {
		t.Fatalf("Boot(%d, %d) = %d", words, oops, e)
	}
	b, e := dict.New(k)
	if e != api.OK {
		t.Fatalf("New = %d", e)
	}
	return &world{t, k, b, api.MaxSymbols}
}

// chapter is the kernel of the chapter's examples: the class P with its method
// sum, and the global G; the number is the oop of what it holds, with x 1, y 2.
func chapter(t *testing.T) (*world, int) {
	t.Helper()
	w := bare(t, 4000, 400)
	w.class("P", "Object", "x y")
	w.global("G")
	w.method("P", "sum ^x + y")
	o := w.instance("P", num(1), num(2))
	w.hold(0, o)
	return w, o
}

func (w *world) class(name, super, own string) int {
	w.t.Helper()
	oop, e := w.k.Define(name, super, fields(own))
	if e != api.OK {
		w.t.Fatalf("Define(%q, %q, %q) = %d", name, super, own, e)
	}
	return oop
}

func (w *world) global(name string) {
	w.t.Helper()
	if e := w.k.Global(name); e != api.OK {
		w.t.Fatalf("Global(%q) = %d", name, e)
	}
}

// hold lets the global of that place hold an object.
func (w *world) hold(place, oop int) {
	w.t.Helper()
	if e := w.k.SetValue(place, obj(oop)); e != api.OK {
		w.t.Fatalf("SetValue(%d, %d) = %d", place, oop, e)
	}
}

func (w *world) named(class string) int {
	w.t.Helper()
	c, e := w.k.Find(class)
	if e != api.OK {
		w.t.Fatalf("Find(%q) = %d", class, e)
	}
	return c
}

func (w *world) keep(oop int) int {
	w.t.Helper()
	if e := w.k.Space().Keep(obj(oop)); e != api.OK {
		w.t.Fatalf("Keep(%d) = %d", oop, e)
	}
	return oop
}

// compiled is a method of a class, which the space keeps from now on.
func (w *world) compiled(class, source string) int {
	w.t.Helper()
	m, f := method.Compile(w.k, w.named(class), source)
	if f.Code != api.OK {
		w.t.Fatalf("Compile(%q, %q) = %+v", class, source, f)
	}
	return w.keep(m)
}

// method lays one into a class.
func (w *world) method(class, source string) int {
	w.t.Helper()
	m := w.compiled(class, source)
	i, _ := method.Info(w.k, m)
	if e := w.b.Put(w.named(class), i.Selector, m); e != api.OK {
		w.t.Fatalf("Put(%q) = %d", i.Selector, e)
	}
	w.k.Space().Drop(1)
	return m
}

// instance is a new object of a class, which nobody keeps.
func (w *world) instance(class string, slots ...api.Word) int {
	w.t.Helper()
	x, e := w.k.Space().Alloc(obj(w.named(class)), len(slots), api.FormatWords)
	if e != api.OK {
		w.t.Fatalf("Alloc = %d", e)
	}
	for i, s := range slots {
		w.put(int(x)/4, i, s)
	}
	return int(x) / 4
}

func (w *world) put(oop, i int, x api.Word) {
	w.t.Helper()
	if e := w.k.Space().Heap().Put(oop, i, x); e != api.OK {
		w.t.Fatalf("Put(%d, %d, %d) = %d", oop, i, x, e)
	}
}

func (w *world) at(oop, i int) api.Word {
	x, _ := w.k.Space().Heap().At(oop, i)
	return x
}

// slots is all that an object holds.
func (w *world) slots(oop int) []api.Word {
	n, _, _ := w.k.Space().Heap().Size(oop)
	var list []api.Word
	for i := range n {
		list = append(list, w.at(oop, i))
	}
	return list
}

// wantSlots says of which class an object is, and what it holds.
func (w *world) wantSlots(oop int, class string, want ...api.Word) {
	w.t.Helper()
	c, e := w.k.Of(obj(oop))
	if e != api.OK || c != w.named(class) {
		w.t.Fatalf("the class of %d is %d, %d, want %s", oop, c, e, class)
	}
	if got := w.slots(oop); !slices.Equal(got, want) {
		w.t.Fatalf("the slots of %d are %d, want %d", oop, got, want)
	}
}

// do asks for a reshape, and sees to it that own and the stack are left as they are.
func (w *world) do(name, own string) api.Refusal {
	w.t.Helper()
	room := append(fields(own), "spare", "room")
	list := room[:len(room)-2]
	kept := fmt.Sprint(w.k.Space().Kept())
	r := reshape.Do(w.k, w.b, name, list)
	if !slices.Equal(room, append(fields(own), "spare", "room")) {
		w.t.Fatalf("Do(%q, %q) has made its list %q", name, own, room)
	}
	if now := fmt.Sprint(w.k.Space().Kept()); now != kept {
		w.t.Fatalf("Do(%q, %q) has left on the stack %s, where there was %s", name, own, now, kept)
	}
	return r
}

// wantDo is a reshape that is taken.
func (w *world) wantDo(name, own string) {
	w.t.Helper()
	if r := w.do(name, own); r != (api.Refusal{}) {
		w.t.Fatalf("Do(%q, %q) = %+v", name, own, r)
	}
}

// wantNotDo is one that is refused: what the root and the stack reach is as it
// was, and the mark, unless it hit.
func (w *world) wantNotDo(name, own string, want api.Refusal) {
	w.t.Helper()
	mark := w.k.Space().Heap().Marked()
	if want.Code == api.ErrMarked {
		mark = 0
	}
	was, lookups := w.reached(), w.b.Hits()
	if r := w.do(name, own); r != want {
		w.t.Fatalf("Do(%q, %q) = %+v, want %+v", name, own, r, want)
	}
	if w.reached() != was || w.b.Hits() != lookups {
		w.t.Fatalf("Do(%q, %q), refused by %d, has changed something", name, own, want.Code)
	}
	if m := w.k.Space().Heap().Marked(); m != mark {
		w.t.Fatalf("behind Do(%q, %q), refused by %d, the mark is %d, want %d", name, own, want.Code, m, mark)
	}
}

// seen is all that there is of a kernel: objects, places, symbols, what is kept, the mark.
func (w *world) seen() string {
	s := w.k.Space()
	return fmt.Sprint(s.Heap().State(), s.Kept(), s.Crowned(), w.k.Symbols().All())
}

// reached is what a collection would leave of it, by oops, and how much room;
// the mark is not told. Nothing is changed by it.
func (w *world) reached() string {
	words, oops := w.k.Space().Room()
	return fmt.Sprint(w.live(), words, oops, w.k.Space().Kept(), w.k.Space().Crowned(), w.k.Symbols().All())
}

// live is the objects that the root and the stack lead to, in the order of their places.
func (w *world) live() []api.HeapObject {
	s := w.k.Space()
	objects := s.Heap().State().Objects
	by := map[api.Word]api.HeapObject{}
	for _, o := range objects {
		by[obj(o.Oop)] = o
	}
	reached := map[int]int{}
	for names := append(s.Kept(), obj(s.Crowned())); len(names) > 0; names = names[1:] {
		o, there := by[names[0]]
		if !there || reached[o.Oop] > 0 {
			continue
		}
		reached[o.Oop]++
		names = append(names, o.Class)
		if o.Format == api.FormatWords {
			names = append(names, o.Slots...)
		}
	}
	return slices.DeleteFunc(objects, func(o api.HeapObject) bool { return reached[o.Oop] == 0 })
}

// leave lets just so much room be left behind a collection: the rest is taken
// by objects that are kept, of which the first ones have slots.
func (w *world) leave(words, oops int) {
	w.t.Helper()
	s := w.k.Space()
	s.Collect()
	v, o := s.Room()
	for ; o > oops; o-- {
		n := min(v-words-2*(o-oops), api.MaxSlots)
		x, e := s.Alloc(obj(api.Array), n, api.FormatWords)
		if e != api.OK {
			w.t.Fatalf("Alloc(%d) = %d", n, e)
		}
		s.Keep(x)
		v -= 2 + n
	}
	if v, o = s.Room(); v != words || o != oops {
		w.t.Fatalf("there are %d, %d, not %d, %d", v, o, words, oops)
	}
}

// litter makes objects of a class that nobody keeps, as long as nothing must be collected for them.
func (w *world) litter(class string, n, slots int) {
	for range n {
		w.k.Space().Heap().Alloc(obj(w.named(class)), slots, api.FormatWords)
	}
}

// few lets the world have so many symbols more, and none beyond them.
func (w *world) few(more int) {
	w.t.Helper()
	all := w.k.Symbols().All()
	w.most = len(all) + more
	table, e := symbol.Load(all, w.most)
	if e != api.OK {
		w.t.Fatalf("Load = %d", e)
	}
	w.k, _ = class.Over(w.k.Space(), table)
	w.b, _ = dict.New(w.k)
}

// info is the method that a class has for a selector, and its oop.
func (w *world) info(class, selector string) (api.MethodInfo, int) {
	w.t.Helper()
	m, e := w.b.At(w.named(class), selector)
	if e != api.OK {
		w.t.Fatalf("At(%q, %q) = %d", class, selector, e)
	}
	i, e := method.Info(w.k, m)
	if e != api.OK {
		w.t.Fatalf("Info(%d) = %d", m, e)
	}
	return i, m
}

func (w *world) wantFields(class, want string, layout int) {
	w.t.Helper()
	list, e := w.k.Fields(w.named(class))
	if e != api.OK || !slices.Equal(list, fields(want)) {
		w.t.Fatalf("the fields of %s are %q, want %q", class, list, want)
	}
	if n, _ := w.k.Layout(w.named(class)); n != layout {
		w.t.Fatalf("the layout number of %s is %d, want %d", class, n, layout)
	}
}

// answers runs a doit to its end.
func (w *world) answers(source string, want api.Word) {
	w.t.Helper()
	n, f := proc.Spawn(w.k, source)
	if f.Code != api.OK {
		w.t.Fatalf("Spawn(%q) = %+v", source, f)
	}
	r, e := proc.Run(w.k, w.b, n, 1000)
	if e != api.OK || r.State != api.Ended || r.Value != want {
		w.t.Fatalf("%q comes to %+v, %d, want %d", source, r, e, want)
	}
}

// numbered is names that are a letter and a number.
func numbered(letter string, n int) string {
	var list []string
	for i := range n {
		list = append(list, letter+strconv.Itoa(i))
	}
	return strings.Join(list, " ")
}
