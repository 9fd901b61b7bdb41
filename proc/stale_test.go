package proc_test

import (
	"math"
	"slices"
	"testing"

	"kiln/api"
	"kiln/class"
	"kiln/context"
	"kiln/proc"
)

// made is a context by hand, which the space keeps from now on.
func (w *world) made(sender, outer, method api.Word) int {
	w.t.Helper()
	c, e := context.New(w.k, api.ContextInfo{Sender: sender, Method: method, Receiver: null, Outer: outer}, nil)
	if e != api.OK {
		w.t.Fatalf("New = %d", e)
	}
	return w.keep(c)
}

// P19.5: a context without a sender and without an outer.
func TestStaleAlone(t *testing.T) {
	w := begin(t)
	m, o := w.compiled("P", "foo ^x"), w.compiled("Object", "foo ^3")
	c, d := w.made(null, null, obj(m)), w.made(null, null, obj(o))
	w.wantStale(c, false, api.OK)
	w.raise("P")
	w.wantStale(c, true, api.OK)
	w.wantStale(d, false, api.OK)
	w.put(m, api.MethodLayout, num(1))
	w.wantStale(c, false, api.OK)
	// What is no method is not stale.
	for _, x := range []api.Word{num(3), 2, null, empty, obj(c), obj(w.named("P"))} {
		w.wantStale(w.made(null, null, x), false, api.OK)
	}
}

// stands is contexts over one another: three that wait, each with two outers
// of its own; the first is the top one. Each has another method of P.
func (w *world) stands() (list [9]int, methods [9]int) {
	w.t.Helper()
	sender := null
	for row := 2; row >= 0; row-- {
		outer := null
		for i := 2; i >= 0; i-- {
			at := 3*row + i
			methods[at] = w.compiled("P", "foo ^x")
			wait := null
			if i == 0 {
				wait = sender
			}
			list[at] = w.made(wait, outer, obj(methods[at]))
			outer = obj(list[at])
		}
		sender = outer
	}
	return list, methods
}

// P19.5: one that is stale is found wherever it stands, in the chain or in the outers of one of it.
func TestStaleAnywhere(t *testing.T) {
	w := begin(t)
	list, methods := w.stands()
	top := list[0]
	if c := w.chain(top); !slices.Equal(c, []int{list[0], list[3], list[6]}) {
		t.Fatalf("the chain is %d of %d", c, list)
	}
	w.wantStale(top, false, api.OK)
	for i, m := range methods {
		w.put(m, api.MethodLayout, num(5))
		w.wantStale(top, true, api.OK)
		// From the others one stands on what lies below them alone.
		for at, c := range list {
			// An outer waits for nobody: it stands on its own outers.
			want := at <= i && i/3 == at/3 || at%3 == 0 && i >= at
			w.wantStale(c, want, api.OK)
		}
		w.put(m, api.MethodLayout, num(0))
		w.wantStale(top, false, api.OK)
	}
}

// P19.5: the senders of an outer, and what is on a stack or the receiver, are not what one stands on.
func TestStaleNotStoodOn(t *testing.T) {
	w := begin(t)
	old, fresh := w.compiled("P", "foo ^x"), w.compiled("Object", "foo ^3")
	w.raise("P")
	waiter := w.made(null, null, obj(old))
	outer := w.made(obj(waiter), null, obj(fresh))
	inner := w.made(null, obj(outer), obj(fresh))
	w.wantStale(waiter, true, api.OK)
	w.wantStale(outer, true, api.OK)
	w.wantStale(inner, false, api.OK)
	block, e := context.NewBlock(w.k, waiter, 0, 0, 0)
	if e != api.OK {
		t.Fatalf("NewBlock = %d", e)
	}
	c, e := context.New(w.k, api.ContextInfo{Sender: null, Method: obj(fresh), Receiver: obj(waiter), Outer: null, Temps: 1, Stack: 1}, []api.Word{obj(block)})
	if e != api.OK {
		t.Fatalf("New = %d", e)
	}
	context.Push(w.k, c, obj(waiter))
	w.wantStale(c, false, api.OK)
	context.Cut(w.k, outer)
	w.wantStale(outer, false, api.OK)
}

// P19.5: what is no context, and no kernel.
func TestStaleOfNone(t *testing.T) {
	w := begin(t)
	n := w.spawn("^3")
	for _, oop := range []int{0, -1, 1, 2, 3, 4, 15, 18, 19, 20, w.named("P"), w.object(n), w.array(), 65536, 65537, math.MaxInt, math.MinInt, 1 << 62} {
		w.wantStale(oop, false, api.ErrContext)
	}
	for _, k := range []*class.Kernel{nil, new(class.Kernel)} {
		for _, oop := range []int{0, 1, w.top(n)} {
			if s, e := proc.Stale(k, oop); s || e != api.ErrNil {
				t.Fatalf("Stale = %v, %d", s, e)
			}
		}
	}
}

// P19.5: ways that lead nowhere, in the chain or in the outers of one of it;
// an error is told whether something is stale ahead of it, behind it, or nowhere.
func TestStaleErrors(t *testing.T) {
	for _, stale := range []int{-1, 0, 1, 2, 3, 5, 6, 8} {
		w := begin(t)
		list, methods := w.stands()
		if stale >= 0 {
			w.put(methods[stale], api.MethodLayout, num(5))
		}
		for at := range list {
			slots := []int{api.ContextOuter}
			if at%3 == 0 {
				slots = append(slots, api.ContextSender)
			}
			for _, slot := range slots {
				was := w.at(list[at], slot)
				for _, bad := range []api.Word{num(3), 2, empty, obj(60000), obj(methods[0]), obj(list[at])} {
					w.put(list[at], slot, bad)
					w.wantStale(list[0], false, api.ErrContext)
				}
				w.put(list[at], slot, was)
			}
			// An outer's sender is not gone to.
			if at%3 != 0 {
				w.put(list[at], api.ContextSender, num(3))
				w.wantStale(list[0], stale >= 0, api.OK)
				w.put(list[at], api.ContextSender, null)
			}
		}
		w.wantStale(list[0], stale >= 0, api.OK)
	}
}

// P19.5: the longest chain, and the longest way outward.
func TestStaleLongest(t *testing.T) {
	w := beginIn(t, 100000, 9000)
	old, fresh := w.compiled("P", "foo ^x"), w.compiled("Object", "foo ^3")
	w.raise("P")
	for _, first := range []int{old, fresh} {
		sender, outer := null, null
		for i := range api.MaxContexts {
			m := fresh
			if i == 0 {
				m = first
			}
			sender, outer = obj(w.made(sender, null, obj(m))), obj(w.made(null, outer, obj(m)))
			w.wantStaleQuick(int(sender/4), first == old, api.OK)
			w.wantStaleQuick(int(outer/4), first == old, api.OK)
		}
		longer := w.made(null, outer, obj(fresh))
		w.wantStaleQuick(longer, false, api.ErrContext)
		w.wantStaleQuick(w.made(null, obj(longer), obj(fresh)), false, api.ErrContext)
		// The longest chain with the longest way outward at its end, and one too long.
		c := w.made(null, outer, obj(fresh))
		w.put(c, api.ContextOuter, w.at(int(outer/4), api.ContextOuter))
		for range api.MaxContexts - 1 {
			c = w.made(obj(c), null, obj(fresh))
		}
		w.wantStaleQuick(c, first == old, api.OK)
		last := w.chain(c)[api.MaxContexts-1]
		w.put(last, api.ContextOuter, outer)
		w.wantStaleQuick(c, false, api.ErrContext)
		w.put(last, api.ContextOuter, null)
		w.put(last, api.ContextSender, obj(last))
		w.wantStaleQuick(c, false, api.ErrContext)
		w.put(last, api.ContextSender, obj(w.made(null, null, obj(fresh))))
		w.wantStaleQuick(c, false, api.ErrContext)
	}
}

// wantStaleQuick does not look whether something was changed.
func (w *world) wantStaleQuick(c int, want bool, code api.Errno) {
	w.t.Helper()
	if s, e := proc.Stale(w.k, c); s != want || e != code {
		w.t.Fatalf("Stale(%d) = %v, %d, want %v, %d", c, s, e, want, code)
	}
}

// P19.3: a process that stands in code of another layout fails, whatever the
// fuel is, without an event; one that only has to do with the class goes on.
func TestRunStale(t *testing.T) {
	for _, c := range []struct {
		source string
		stale  []string // the classes whose reshapes it does not outlive
	}{
		{"^P new wait", []string{"P"}},
		{"^Q new wait", []string{"P"}},
		{"^P new stay", nil},
		{"^Q new y", []string{"P", "Q"}},
		{"^3 do: [Q new y]", []string{"P", "Q"}},
		{"^3 do: [P new stay]", nil},
		{"[[P new stay] value] value", nil},
		{"G := P new. ^G do: [G stay]", nil},
		{"^Q new zork: P new stay", nil},
		{"^P new down: 100", []string{"P"}},
	} {
		for _, class := range []string{"P", "Q"} {
			for _, fuel := range []int{0, 1, 30, 1 << 40} {
				w := lively(t, 9000, 900)
				w.method("P", "zork ^self stay")
				n := w.spawn(c.source)
				other := w.spawn("^3 + 4")
				w.wantRun(n, 40, ready(40))
				top := w.top(n)
				w.wantStale(top, false, api.OK)
				w.renew(class)
				stale := slices.Contains(c.stale, class) || class == "P" && slices.Contains(c.stale, "Q")
				w.wantStale(top, stale, api.OK)
				if !stale {
					w.wantRun(n, fuel%100, ready(fuel%100))
					continue
				}
				w.k.Space().Heap().Mark(1)
				objects := len(w.k.Space().Heap().All())
				w.wantRun(n, fuel, failed(0, api.ErrStale))
				if w.k.Space().Heap().Marked() != 1 || len(w.k.Space().Heap().All()) != objects {
					t.Fatalf("%q: something was allocated", c.source)
				}
				if x := w.info(top); x.Sender != null {
					t.Fatalf("%q: the top context is %+v", c.source, x)
				}
				w.k.Space().Heap().Mark(0)
				w.wantRun(other, 9, ended(1, num(7)))
				again := w.spawn(c.source)
				w.wantRun(again, 40, ready(40))
			}
		}
	}
}

// P19.3: stale in the middle of a chain, with fresh code above it and below it.
func TestRunStaleBetween(t *testing.T) {
	w := lively(t, 9000, 900)
	n := w.spawn("^3 do: [Q new y]")
	w.method("Q", "y ^self do: [3 stay]")
	w.wantRun(n, 40, ready(40))
	chain := w.chain(w.top(n))
	w.renew("Q")
	stale := 0
	for _, c := range chain {
		m := int(w.info(c).Method / 4)
		if w.at(m, api.MethodLayout) != w.at(int(w.at(m, api.MethodClass)/4), api.ClassLayout) {
			stale++
		}
	}
	if stale != 2 || len(chain) != 7 {
		t.Fatalf("of %d contexts %d are stale", len(chain), stale)
	}
	w.wantRun(n, 3, failed(0, api.ErrStale))
	for _, c := range chain {
		if w.info(c).Sender != null {
			t.Fatalf("the context %d is not cut", c)
		}
	}
}

// P19.3: a block of a stale method is not stood on till it is activated.
func TestRunStaleBlock(t *testing.T) {
	w := lively(t, 9000, 900)
	w.wantRun(w.spawn("G := P new hands. ^3"), 9, ended(3, num(3)))
	n := w.spawn("| n | n := 0. [n < 4] whileTrue: [n := n + 1]. ^G value: n")
	w.wantRun(n, 2, ready(2))
	w.renew("P")
	w.wantStale(w.top(n), false, api.OK)
	w.wantRun(n, 99, failed(12, api.ErrStale))
	w.wantState(n, api.Failed, api.ErrStale)
	// One that is activated is, though its method's context is long over.
	w.wantRun(w.spawn("G := P new blocks. ^3"), 9, unknown(2, "blocks"))
	w.method("P", "blocks ^[[true] whileTrue: [x := 4]]")
	w.wantRun(w.spawn("G := P new blocks. ^3"), 9, ended(3, num(3)))
	n = w.spawn("^G value")
	w.wantRun(n, 20, ready(20))
	w.renew("P")
	w.wantRun(n, 20, failed(0, api.ErrStale))
}

// P19.1: where the layout number alone is raised, a method in a dictionary is run all the same,
// till it is found by the next Run.
func TestRaisedAlone(t *testing.T) {
	w := lively(t, 9000, 900)
	n := w.spawn("^P new wait")
	w.raise("P")
	w.wantRun(n, 0, ready(0))
	w.wantRun(n, 1, ready(1))
	w.wantRun(n, 30, ready(30))
	w.wantRun(n, 30, failed(0, api.ErrStale))
	w.wantRun(w.spawn("^P new x: 3; x"), 9, ended(3, num(3)))
	// A class whose number goes round to what it was is that of its methods again.
	n = w.spawn("^P new wait")
	w.wantRun(n, 3, ready(3))
	w.put(w.named("P"), api.ClassLayout, num(api.MaxCount))
	w.wantStale(w.top(n), true, api.OK)
	w.put(w.named("P"), api.ClassLayout, num(0))
	w.wantRun(n, 3, ready(3))
}
