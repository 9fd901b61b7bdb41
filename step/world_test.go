package step_test

import (
	"fmt"
	"testing"

	"kiln/api"
	"kiln/class"
	"kiln/context"
	"kiln/dict"
	"kiln/method"
	"kiln/step"
)

const (
	null  = api.Word(4 * api.Nil)
	no    = api.Word(4 * api.False)
	yes   = api.Word(4 * api.True)
	empty = api.Word(4 * api.Empty)
)

func num(n int) api.Word { return api.Word(2*n + 1) }

func obj(oop int) api.Word { return api.Word(4 * oop) }

// world is a kernel with the class P (fields x, y; methods sum, deep), the
// global G, and its book.
type world struct {
	t *testing.T
	k *class.Kernel
	b *dict.Book
}

func begin(t *testing.T) *world {
	t.Helper()
	return beginIn(t, 20000, 2000)
}

func beginIn(t *testing.T, words, oops int) *world {
	t.Helper()
	w := bare(t, words, oops)
	w.class("P", "Object", "x", "y")
	w.global("G")
	w.method("P", "sum ^x + y")
	w.method("P", "deep ^self deep")
	return w
}

// bare is a world with the kernel alone.
func bare(t *testing.T, words, oops int) *world {
	t.Helper()
	k, e := class.Boot(words, oops)
	if e != api.OK {
		t.Fatalf("Boot(%d, %d) = %d", words, oops, e)
	}
	b, e := dict.New(k)
	if e != api.OK {
		t.Fatalf("New = %d", e)
	}
	return &world{t, k, b}
}

func (w *world) class(name, super string, own ...string) int {
	w.t.Helper()
	oop, e := w.k.Define(name, super, own)
	if e != api.OK {
		w.t.Fatalf("Define(%q, %q) = %d", name, super, e)
	}
	return oop
}

func (w *world) global(name string) {
	w.t.Helper()
	if e := w.k.Global(name); e != api.OK {
		w.t.Fatalf("Global(%q) = %d", name, e)
	}
}

func (w *world) named(class string) int {
	w.t.Helper()
	c, e := w.k.Find(class)
	if e != api.OK {
		w.t.Fatalf("Find(%q) = %d", class, e)
	}
	return c
}

// method lays one into a class.
func (w *world) method(name, source string) int {
	w.t.Helper()
	c := w.named(name)
	m, f := method.Compile(w.k, c, source)
	if f.Code != api.OK {
		w.t.Fatalf("Compile(%q) = %+v", source, f)
	}
	w.lay(c, m)
	return m
}

// lay lays what was compiled into a class.
func (w *world) lay(c, m int) {
	w.t.Helper()
	w.keep(m)
	i, _ := method.Info(w.k, m)
	if e := w.b.Put(c, i.Selector, m); e != api.OK {
		w.t.Fatalf("Put(%q) = %d", i.Selector, e)
	}
	w.k.Space().Drop(1)
}

func (w *world) keep(oop int) int {
	w.k.Space().Keep(obj(oop))
	return oop
}

// spawn is a process of a doit, which the space keeps from now on.
func (w *world) spawn(source string) int {
	w.t.Helper()
	m, f := method.Doit(w.k, source)
	if f.Code != api.OK {
		w.t.Fatalf("Doit(%q) = %+v", source, f)
	}
	return w.runs(m, null)
}

// runs is a process that runs a method for a receiver, with arguments.
func (w *world) runs(m int, receiver api.Word, args ...api.Word) int {
	w.t.Helper()
	w.keep(m)
	i, _ := method.Info(w.k, m)
	c, e := context.New(w.k, api.ContextInfo{Sender: null, Method: obj(m), Receiver: receiver, Outer: null, Temps: i.Temps, Stack: i.Stack}, args)
	if e != api.OK {
		w.t.Fatalf("New = %d", e)
	}
	w.k.Space().Drop(1)
	return w.process(c)
}

// process is one whose top context is that.
func (w *world) process(c int) int {
	w.t.Helper()
	w.keep(c)
	p, e := w.k.Space().Alloc(obj(api.Process), api.ProcessSlots, api.FormatWords)
	if e != api.OK {
		w.t.Fatalf("Alloc = %d", e)
	}
	w.k.Space().Drop(1)
	w.put(int(p/4), api.ProcessTop, obj(c))
	return w.keep(int(p / 4))
}

func (w *world) put(oop, i int, x api.Word) {
	w.t.Helper()
	if e := w.k.Space().Heap().Put(oop, i, x); e != api.OK {
		w.t.Fatalf("Put(%d, %d, %d) = %d", oop, i, x, e)
	}
}

func (w *world) at(oop, i int) api.Word {
	x, _ := w.k.Space().Heap().At(oop, i)
	return x
}

// slots is all that an object holds.
func (w *world) slots(oop int) []api.Word {
	n, _, _ := w.k.Space().Heap().Size(oop)
	var list []api.Word
	for i := range n {
		list = append(list, w.at(oop, i))
	}
	return list
}

func (w *world) top(p int) int { return int(w.at(p, api.ProcessTop) / 4) }

func (w *world) info(c int) api.ContextInfo {
	w.t.Helper()
	x, e := context.Info(w.k, c)
	if e != api.OK {
		w.t.Fatalf("Info(%d) = %d", c, e)
	}
	return x
}

// stack is the cells of a context that hold something, the top one last.
func (w *world) stack(c int) []api.Word {
	w.t.Helper()
	var list []api.Word
	for back := w.info(c).Top - 1; back >= 0; back-- {
		x, _ := context.Peek(w.k, c, back)
		list = append(list, x)
	}
	return list
}

func (w *world) symbol(text string) int {
	w.t.Helper()
	n, there := w.k.Symbols().Find(text)
	if !there {
		w.t.Fatalf("no symbol %q", text)
	}
	return n
}

// seen is all that there is of a kernel: objects, places, symbols, what is kept, the mark.
func (w *world) seen() string {
	s := w.k.Space()
	return fmt.Sprint(s.Heap().State(), s.Kept(), s.Crowned(), w.k.Symbols().All())
}

func ready(used int) api.Ran { return api.Ran{State: api.Ready, Used: used} }

func ended(used int, value api.Word) api.Ran {
	return api.Ran{State: api.Ended, Used: used, Value: value}
}

func failed(used int, code api.Errno) api.Ran {
	return api.Ran{State: api.Failed, Used: used, Code: code}
}

func unknown(used int, selector string) api.Ran {
	return api.Ran{State: api.Failed, Used: used, Code: api.ErrUnderstood, Selector: selector}
}

// wantGo lets a process go on.
func (w *world) wantGo(p, fuel int, want api.Ran) {
	w.t.Helper()
	kept := fmt.Sprint(w.k.Space().Kept())
	if r := step.Go(w.k, w.b, p, fuel); r != want {
		w.t.Fatalf("Go(%d, %d) = %+v, want %+v", p, fuel, r, want)
	}
	if now := fmt.Sprint(w.k.Space().Kept()); now != kept {
		w.t.Fatalf("Go(%d, %d) has left on the stack %s, where there was %s", p, fuel, now, kept)
	}
}

func (w *world) wantNext(p int, want string) {
	w.t.Helper()
	was := w.seen()
	if s := step.Next(w.k, p); s != want {
		w.t.Fatalf("Next(%d) = %q, want %q", p, s, want)
	}
	if w.seen() != was {
		w.t.Fatalf("Next(%d) has changed something", p)
	}
}

// wantDoit is a process of a doit that goes on with all the fuel that it needs.
func (w *world) wantDoit(source string, want api.Ran) {
	w.t.Helper()
	p := w.spawn(source)
	if r := step.Go(w.k, w.b, p, 10000); r != want {
		w.t.Fatalf("%q: %+v, want %+v", source, r, want)
	}
	w.k.Space().Drop(1)
}

func wantSlots(t *testing.T, what string, got []api.Word, want ...api.Word) {
	t.Helper()
	if fmt.Sprint(got) != fmt.Sprint(want) {
		t.Fatalf("%s: %d, want %d", what, got, want)
	}
}
