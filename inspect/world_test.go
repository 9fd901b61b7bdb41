package inspect_test

import (
	"fmt"
	"strings"
	"testing"

	"kiln/api"
	"kiln/class"
	"kiln/dict"
	"kiln/inspect"
	"kiln/method"
	"kiln/proc"
)

const (
	null  = api.Word(4 * api.Nil)
	no    = api.Word(4 * api.False)
	yes   = api.Word(4 * api.True)
	empty = api.Word(4 * api.Empty)

	least = -1 << 30
	most  = 1<<30 - 1
)

func num(n int) api.Word { return api.Word(2*n + 1) }

func obj(oop int) api.Word { return api.Word(4 * oop) }

// world is a kernel and its book.
type world struct {
	t *testing.T
	k *class.Kernel
	b *dict.Book
}

func booted(t *testing.T, words, oops int) *world {
	t.Helper()
	k, e := class.Boot(words, oops)
	if e != api.OK {
		t.Fatalf("Boot(%d, %d) = %d", words, oops, e)
	}
	b, _ := dict.New(k)
	return &world{t, k, b}
}

// class is the oop of a new class.
func (w *world) class(name, super, own string) int {
	w.t.Helper()
	oop, e := w.k.Define(name, super, strings.Fields(own))
	if e != api.OK {
		w.t.Fatalf("Define(%q, %q, %q) = %d", name, super, own, e)
	}
	return oop
}

// global is the place of a new global, which holds that word.
func (w *world) global(name string, x api.Word) int {
	w.t.Helper()
	if e := w.k.Global(name); e != api.OK {
		w.t.Fatalf("Global(%q) = %d", name, e)
	}
	place := len(w.k.Globals()) - 1
	w.hold(place, x)
	return place
}

func (w *world) hold(place int, x api.Word) {
	w.t.Helper()
	if e := w.k.SetValue(place, x); e != api.OK {
		w.t.Fatalf("SetValue(%d, %d) = %d", place, x, e)
	}
}

// laid is a new object, which the space keeps.
func (w *world) laid(class, format int, slots ...api.Word) api.Word {
	w.t.Helper()
	x, e := w.k.Space().Alloc(obj(class), len(slots), format)
	if e != api.OK {
		w.t.Fatalf("Alloc = %d", e)
	}
	if e = w.k.Space().Keep(x); e != api.OK {
		w.t.Fatalf("Keep = %d", e)
	}
	for i, s := range slots {
		w.put(x, i, s)
	}
	return x
}

func (w *world) put(x api.Word, i int, s api.Word) {
	w.t.Helper()
	if e := w.k.Space().Heap().Put(int(x)/4, i, s); e != api.OK {
		w.t.Fatalf("Put(%d, %d, %d) = %d", x, i, s, e)
	}
}

func (w *world) array(slots ...api.Word) api.Word {
	w.t.Helper()
	return w.laid(api.Array, api.FormatWords, slots...)
}

func (w *world) str(text string) api.Word {
	w.t.Helper()
	slots := make([]api.Word, len(text))
	for i := range slots {
		slots[i] = api.Word(text[i])
	}
	return w.laid(api.String, api.FormatBytes, slots...)
}

func (w *world) symbol(text string) api.Word {
	w.t.Helper()
	n, e := w.k.Symbols().Add(text)
	if e != api.OK {
		w.t.Fatalf("Add(%q) = %d", text, e)
	}
	return api.Word(4*n + 2)
}

// method lays one into a class.
func (w *world) method(class int, source string) {
	w.t.Helper()
	m, f := method.Compile(w.k, class, source)
	if f.Code != api.OK {
		w.t.Fatalf("Compile(%q) = %+v", source, f)
	}
	w.k.Space().Keep(obj(m))
	i, _ := method.Info(w.k, m)
	if e := w.b.Put(class, i.Selector, m); e != api.OK {
		w.t.Fatalf("Put(%q) = %d", i.Selector, e)
	}
	w.k.Space().Drop(1)
}

// run runs a doit to its end; what it ends with.
func (w *world) run(source string) api.Word {
	w.t.Helper()
	n, f := proc.Spawn(w.k, source)
	if f.Code != api.OK {
		w.t.Fatalf("Spawn(%q) = %+v", source, f)
	}
	r, e := proc.Run(w.k, w.b, n, 1000)
	if e != api.OK || r.State != api.Ended {
		w.t.Fatalf("%q comes to %+v, %d", source, r, e)
	}
	return r.Value
}

// seen is all that there is of a kernel: objects, places, the mark, symbols, what is kept.
func (w *world) seen() string {
	s := w.k.Space()
	return fmt.Sprint(s.Heap().State(), s.Kept(), s.Crowned(), w.k.Symbols().All())
}

// text is what Text tells, which must be taken.
func (w *world) text() string {
	w.t.Helper()
	s, e := inspect.Text(w.k)
	if e != api.OK {
		w.t.Fatalf("Text = %q, %d", s, e)
	}
	return s
}

// tells says which lines the text has, and that nothing is changed by telling.
func (w *world) tells(lines ...string) {
	w.t.Helper()
	var want strings.Builder
	for _, l := range lines {
		want.WriteString(l + "\n")
	}
	was := w.seen()
	if got := w.text(); got != want.String() {
		w.t.Fatalf("Text = %q, want %q", got, want.String())
	}
	if w.seen() != was {
		w.t.Fatal("Text has changed something")
	}
}

// value says what a word is told as, alone, and that nothing is changed by it.
func (w *world) value(x api.Word, want string) {
	w.t.Helper()
	w.answers(x, want, api.OK)
}

func (w *world) answers(x api.Word, want string, e api.Errno) {
	w.t.Helper()
	was := w.seen()
	if s, f := inspect.Value(w.k, x); s != want || f != e {
		w.t.Fatalf("Value(%d) = %q, %d, want %q, %d", x, s, f, want, e)
	}
	if w.seen() != was {
		w.t.Fatalf("Value(%d) has changed something", x)
	}
}

// form says how a word is told that needs no label: as a global's value, in a slot, and alone.
func (w *world) form(x api.Word, want string) {
	w.t.Helper()
	w.hold(0, x)
	w.tells("G = " + want)
	w.hold(0, w.array(num(1), x, x))
	w.tells("G = @1", "@1 Array (1 "+want+" "+want+")")
	w.k.Space().Drop(1)
	w.value(x, want)
}
