package proc_test

import (
	"fmt"
	"slices"
	"testing"

	"kiln/api"
	"kiln/class"
	"kiln/context"
	"kiln/dict"
	"kiln/method"
	"kiln/proc"
)

const (
	null  = api.Word(4 * api.Nil)
	empty = api.Word(4 * api.Empty)
)

func num(n int) api.Word { return api.Word(2*n + 1) }

func obj(oop int) api.Word { return api.Word(4 * oop) }

func fault(code api.Errno, at int) api.Fault { return api.Fault{Code: code, At: at} }

// world is a kernel with the class P (field x), the global G, and its book.
type world struct {
	t *testing.T
	k *class.Kernel
	b *dict.Book
}

func begin(t *testing.T) *world {
	t.Helper()
	return beginIn(t, 20000, 2000)
}

func beginIn(t *testing.T, words, oops int) *world {
	t.Helper()
	k, e := class.Boot(words, oops)
	if e != api.OK {
		t.Fatalf("Boot(%d, %d) = %d", words, oops, e)
	}
	b, e := dict.New(k)
	if e != api.OK {
		t.Fatalf("New = %d", e)
	}
	w := &world{t, k, b}
	w.class("P", "Object", "x")
	w.global("G")
	return w
}

func (w *world) class(name, super string, own ...string) int {
	w.t.Helper()
	oop, e := w.k.Define(name, super, own)
	if e != api.OK {
		w.t.Fatalf("Define(%q, %q) = %d", name, super, e)
	}
	return oop
}

func (w *world) global(name string) {
	w.t.Helper()
	if e := w.k.Global(name); e != api.OK {
		w.t.Fatalf("Global(%q) = %d", name, e)
	}
}

func (w *world) named(class string) int {
	w.t.Helper()
	c, e := w.k.Find(class)
	if e != api.OK {
		w.t.Fatalf("Find(%q) = %d", class, e)
	}
	return c
}

// compiled is a method of a class, which the space keeps from now on.
func (w *world) compiled(class, source string) int {
	w.t.Helper()
	m, f := method.Compile(w.k, w.named(class), source)
	if f.Code != api.OK {
		w.t.Fatalf("Compile(%q) = %+v", source, f)
	}
	return w.keep(m)
}

// method lays one into a class.
func (w *world) method(class, source string) int {
	w.t.Helper()
	m := w.compiled(class, source)
	i, _ := method.Info(w.k, m)
	if e := w.b.Put(w.named(class), i.Selector, m); e != api.OK {
		w.t.Fatalf("Put(%q) = %d", i.Selector, e)
	}
	w.k.Space().Drop(1)
	return m
}

func (w *world) keep(oop int) int {
	w.t.Helper()
	if e := w.k.Space().Keep(obj(oop)); e != api.OK {
		w.t.Fatalf("Keep(%d) = %d", oop, e)
	}
	return oop
}

// raise gives a class and its descendants another layout number, as a reshape does.
func (w *world) raise(class string) {
	w.t.Helper()
	for _, n := range w.k.Under(w.named(class)) {
		c, _ := w.k.Numbered(n)
		layout, _ := w.k.Layout(c)
		w.put(c, api.ClassLayout, num(layout+1))
	}
}

func (w *world) put(oop, i int, x api.Word) {
	w.t.Helper()
	if e := w.k.Space().Heap().Put(oop, i, x); e != api.OK {
		w.t.Fatalf("Put(%d, %d, %d) = %d", oop, i, x, e)
	}
}

func (w *world) at(oop, i int) api.Word {
	x, _ := w.k.Space().Heap().At(oop, i)
	return x
}

// slots is all that an object holds.
func (w *world) slots(oop int) []api.Word {
	n, _, _ := w.k.Space().Heap().Size(oop)
	var list []api.Word
	for i := range n {
		list = append(list, w.at(oop, i))
	}
	return list
}

// array is the oop of the Array of processes; its cells are the processes.
func (w *world) array() int { return int(w.at(api.Root, api.RootProcesses) / 4) }

func (w *world) cells() []api.Word { return w.slots(w.array()) }

// seen is all that there is of a kernel: objects, places, symbols, what is kept, the mark.
func (w *world) seen() string {
	s := w.k.Space()
	return fmt.Sprint(s.Heap().State(), s.Kept(), s.Crowned(), w.k.Symbols().All())
}

// reached is what is left of it behind a collection, and not where it lies; the mark is not told.
func (w *world) reached() string {
	s := w.k.Space()
	s.Collect()
	objects := s.Heap().State().Objects
	slices.SortFunc(objects, func(a, b api.HeapObject) int { return a.Oop - b.Oop })
	return fmt.Sprint(objects, s.Kept(), s.Crowned(), w.k.Symbols().All())
}

// room is the words that a collection would leave.
func (w *world) room() int {
	n, _ := w.k.Space().Room()
	return n
}

// leave lets just so much room be left behind a collection: the rest is taken
// by objects that are kept, of which the last one alone has slots.
func (w *world) leave(words, oops int) {
	w.t.Helper()
	s := w.k.Space()
	s.Collect()
	v, o := s.Room()
	more := o - oops
	for i := range more {
		n := 0
		if i == more-1 {
			n = v - words - 2*more
		}
		x, e := s.Alloc(obj(api.Array), n, api.FormatWords)
		if e != api.OK {
			w.t.Fatalf("Alloc(%d) = %d", n, e)
		}
		s.Keep(x)
	}
	if v, o = s.Room(); v != words || o != oops {
		w.t.Fatalf("there are %d, %d, not %d, %d", v, o, words, oops)
	}
}

// litter fills all the room with what nobody keeps.
func (w *world) litter() {
	for e := api.OK; e == api.OK; {
		_, e = w.k.Space().Heap().Alloc(obj(api.Object), 0, api.FormatWords)
	}
}

// spawn makes a process; its number is the next one.
func (w *world) spawn(source string) int {
	w.t.Helper()
	want := proc.Count(w.k) + 1
	kept := fmt.Sprint(w.k.Space().Kept())
	n, f := proc.Spawn(w.k, source)
	if n != want || f != (api.Fault{}) || proc.Count(w.k) != want {
		w.t.Fatalf("Spawn(%q) = %d, %+v, want %d; Count = %d", source, n, f, want, proc.Count(w.k))
	}
	if now := fmt.Sprint(w.k.Space().Kept()); now != kept {
		w.t.Fatalf("Spawn(%q) has left on the stack %s, where there was %s", source, now, kept)
	}
	w.wantState(n, api.Ready, api.OK)
	return n
}

// wantNoSpawn is a Spawn that is refused.
func (w *world) wantNoSpawn(source string, want api.Fault) {
	w.t.Helper()
	count, kept, symbols := proc.Count(w.k), fmt.Sprint(w.k.Space().Kept()), w.k.Symbols().Count()
	if n, f := proc.Spawn(w.k, source); n != 0 || f != want {
		w.t.Fatalf("Spawn(%q) = %d, %+v, want %+v", source, n, f, want)
	}
	if proc.Count(w.k) != count || fmt.Sprint(w.k.Space().Kept()) != kept || w.k.Symbols().Count() != symbols {
		w.t.Fatalf("Spawn(%q), refused, has changed something", source)
	}
}

// wantRun lets a process go on; no other cell but its own is changed by that.
func (w *world) wantRun(n, fuel int, want api.Ran) {
	w.t.Helper()
	if r := w.run(n, fuel); r != want {
		w.t.Fatalf("Run(%d, %d) = %+v, want %+v", n, fuel, r, want)
	}
}

// run lets a process go on, and sees to what a Run leaves.
func (w *world) run(n, fuel int) api.Ran {
	w.t.Helper()
	kept, was := fmt.Sprint(w.k.Space().Kept()), w.cells()
	r, e := proc.Run(w.k, w.b, n, fuel)
	if e != api.OK {
		w.t.Fatalf("Run(%d, %d) = %+v, %d", n, fuel, r, e)
	}
	if now := fmt.Sprint(w.k.Space().Kept()); now != kept {
		w.t.Fatalf("Run(%d, %d) has left on the stack %s, where there was %s", n, fuel, now, kept)
	}
	switch r.State {
	case api.Ended:
		was[n-1] = num(0)
	case api.Failed:
		was[n-1] = num(int(r.Code))
	}
	if now := w.cells(); !slices.Equal(now, was) {
		w.t.Fatalf("behind Run(%d, %d) = %+v the cells are %d, want %d", n, fuel, r, now, was)
	}
	w.wantState(n, r.State, r.Code)
	if r.State != api.Ready {
		w.wantNoProcess(n)
	}
	return r
}

// wantNoRun is a Run that is refused, and changes nothing.
func (w *world) wantNoRun(n, fuel int, want api.Errno) {
	w.t.Helper()
	was := w.seen()
	if r, e := proc.Run(w.k, w.b, n, fuel); r != (api.Ran{}) || e != want {
		w.t.Fatalf("Run(%d, %d) = %+v, %d, want %d", n, fuel, r, e, want)
	}
	if w.seen() != was {
		w.t.Fatalf("Run(%d, %d), refused, has changed something", n, fuel)
	}
}

func (w *world) wantState(n, state int, code api.Errno) {
	w.t.Helper()
	was := w.seen()
	if s, e := proc.State(w.k, n); s != state || e != code {
		w.t.Fatalf("State(%d) = %d, %d, want %d, %d", n, s, e, state, code)
	}
	if w.seen() != was {
		w.t.Fatalf("State(%d) has changed something", n)
	}
}

// wantNoProcess says that no process of this number is ready.
func (w *world) wantNoProcess(n int) {
	w.t.Helper()
	w.wantNoRun(n, 1, api.ErrProcess)
	w.wantNoRun(n, -1, api.ErrProcess)
	if oop, e := proc.Object(w.k, n); oop != 0 || e != api.ErrProcess {
		w.t.Fatalf("Object(%d) = %d, %d", n, oop, e)
	}
	if oop, e := proc.Top(w.k, n); oop != 0 || e != api.ErrProcess {
		w.t.Fatalf("Top(%d) = %d, %d", n, oop, e)
	}
}

// object is the Process of a process that is ready.
func (w *world) object(n int) int {
	w.t.Helper()
	oop, e := proc.Object(w.k, n)
	if e != api.OK {
		w.t.Fatalf("Object(%d) = %d, %d", n, oop, e)
	}
	return oop
}

// top is its top context.
func (w *world) top(n int) int {
	w.t.Helper()
	oop, e := proc.Top(w.k, n)
	if e != api.OK {
		w.t.Fatalf("Top(%d) = %d, %d", n, oop, e)
	}
	return oop
}

func (w *world) chain(c int) []int {
	w.t.Helper()
	list, e := context.Chain(w.k, c)
	if e != api.OK {
		w.t.Fatalf("Chain(%d) = %d", c, e)
	}
	return list
}

func (w *world) info(c int) api.ContextInfo {
	w.t.Helper()
	x, e := context.Info(w.k, c)
	if e != api.OK {
		w.t.Fatalf("Info(%d) = %d", c, e)
	}
	return x
}

// wantStale asks whether a context stands on something stale.
func (w *world) wantStale(c int, want bool, code api.Errno) {
	w.t.Helper()
	was := w.seen()
	if s, e := proc.Stale(w.k, c); s != want || e != code {
		w.t.Fatalf("Stale(%d) = %v, %d, want %v, %d", c, s, e, want, code)
	}
	if w.seen() != was {
		w.t.Fatalf("Stale(%d) has changed something", c)
	}
}

func ready(used int) api.Ran { return api.Ran{State: api.Ready, Used: used} }

func ended(used int, value api.Word) api.Ran {
	return api.Ran{State: api.Ended, Used: used, Value: value}
}

func failed(used int, code api.Errno) api.Ran {
	return api.Ran{State: api.Failed, Used: used, Code: code}
}

func unknown(used int, selector string) api.Ran {
	return api.Ran{State: api.Failed, Used: used, Code: api.ErrUnderstood, Selector: selector}
}
