package step_test

import (
	"math"
	"math/rand"
	"slices"
	"testing"

	"kiln/api"
	"kiln/class"
	"kiln/context"
	"kiln/dict"
	"kiln/method"
	"kiln/space"
	"kiln/step"
	"kiln/symbol"
)

// askAll lets everything go on: that each call ends, and answers a state, is all that is said.
func askAll(t *testing.T, k *class.Kernel, b *dict.Book, oops ...int) {
	t.Helper()
	for _, p := range oops {
		for _, fuel := range []int{0, 1, -5, 7, 30} {
			step.Next(k, p)
			if r := step.Go(k, b, p, fuel); r.State < 0 || r.State > api.Failed || r.Used < 0 || r.Used > max(fuel, 0) {
				t.Fatalf("Go(%d, %d) = %+v", p, fuel, r)
			}
		}
	}
}

func numbersTo(n int) []int {
	list := []int{math.MinInt, math.MaxInt, math.MaxInt/2 + 1, 65536, 65537, -1}
	for i := range n {
		list = append(list, i)
	}
	return list
}

// lived is a world with processes that stand in all kinds of events; the number is behind all objects.
func lived(t *testing.T) (*world, []int, int) {
	t.Helper()
	w := lively(t, 3000, 300)
	var all []int
	for i, source := range programs() {
		p := w.spawn(source)
		step.Go(w.k, w.b, p, i%5)
		all = append(all, p)
	}
	return w, all, slices.Max(w.k.Space().Heap().All()) + 2
}

// P18.1: without a kernel or a book.
func TestNil(t *testing.T) {
	w := begin(t)
	p := w.spawn("^3")
	none := api.Ran{Code: api.ErrNil}
	for _, fuel := range []int{0, 5, -1} {
		for _, r := range []api.Ran{step.Go(nil, w.b, p, fuel), step.Go(w.k, nil, p, fuel), step.Go(nil, nil, p, fuel), step.Go(w.k, nil, 0, fuel), step.Go(new(class.Kernel), w.b, p, fuel)} {
			if r != none {
				t.Fatalf("%+v", r)
			}
		}
	}
	if s := step.Next(nil, p); s != "" {
		t.Fatalf("Next = %q", s)
	}
	if s := step.Next(new(class.Kernel), p); s != "" {
		t.Fatalf("Next = %q", s)
	}
	// A book that no call made: it ends.
	step.Go(w.k, new(dict.Book), w.spawn("^3 + 4"), 5)
}

// P18.1: what is no process.
func TestNoProcess(t *testing.T) {
	w := begin(t)
	good := w.spawn("3 foo")
	top := w.top(good)
	lay := func(class, n, format int, first ...api.Word) int {
		x, e := w.k.Space().Alloc(obj(class), n, format)
		if e != api.OK {
			t.Fatalf("Alloc = %d", e)
		}
		for i, v := range first {
			w.put(int(x/4), i, v)
		}
		return w.keep(int(x / 4))
	}
	some := []int{
		0, -1, 1, 2, 3, 18, 19, 65537, 99999, math.MaxInt, math.MinInt, top, w.named("P"),
		lay(api.Process, 0, 0),
		lay(api.Process, 2, 0, obj(top), null),
		lay(api.Process, 1, 0),
		lay(api.Process, 1, 0, num(3)),
		lay(api.Process, 1, 0, 2),
		lay(api.Process, 1, 0, obj(60000)),
		lay(api.Process, 1, 0, obj(good)),
		lay(api.Process, 1, 0, obj(w.named("P"))),
		lay(api.Process, 1, 1, api.Word(min(4*top, 252))),
		lay(api.Array, 1, 0, obj(top)),
		lay(api.Object, 1, 0, obj(top)),
		lay(api.Process, 1, 0, obj(lay(api.Context, 8, 0))),
		lay(api.Process, 1, 0, obj(lay(api.Context, 12, 0))),
	}
	for _, p := range some {
		was := w.seen()
		w.wantGo(p, 5, api.Ran{Code: api.ErrContext})
		w.wantGo(p, 0, api.Ran{Code: api.ErrContext})
		w.wantNext(p, "")
		if w.seen() != was {
			t.Fatalf("Go(%d) has changed something", p)
		}
	}
	w.wantGo(lay(api.Process, 1, 0, obj(top)), 5, unknown(1, "foo"))
}

// P18.1: at all arguments each call ends.
func TestAllArguments(t *testing.T) {
	w, _, last := lived(t)
	askAll(t, w.k, w.b, numbersTo(last)...)
	// The book of another kernel knows other methods.
	other, all, _ := lived(t)
	mixed := begin(t)
	askAll(t, mixed.k, other.b, mixed.spawn("^P new sum"), mixed.spawn("^3 find: 4 in: 5"))
	askAll(t, other.k, mixed.b, all...)
}

// P18.1: over spaces and symbols that no kernel left.
func TestOverOthers(t *testing.T) {
	bareSpace, _ := space.New(100, 10)
	crowned, _ := space.New(400, 40)
	crowned.Alloc(64, 12, 0)
	crowned.Crown(1)
	for i := range 12 {
		crowned.SetRoot(i, 4)
	}
	none, _ := symbol.New(0)
	known, _, last := lived(t)
	for _, s := range []*space.Space{bareSpace, crowned, new(space.Space), known.k.Space()} {
		for _, x := range []*symbol.Table{none, new(symbol.Table)} {
			k, _ := class.Over(s, x)
			b, _ := dict.New(k)
			askAll(t, k, b, numbersTo(last)...)
		}
	}
}

// spoil changes something in a world, at random.
func (w *world) spoil(r *rand.Rand, last int) {
	h := w.k.Space().Heap()
	oop, i := 1+r.Intn(last), r.Intn(14)
	if r.Intn(2) == 0 {
		all := h.All()
		oop = all[len(all)-1-r.Intn(len(all)/2)]
	}
	x := api.Word(r.Intn(4*last+20) - 10)
	switch r.Intn(12) {
	case 0:
		h.Free(oop)
	case 1:
		h.SetClass(oop, []api.Word{obj(4 + r.Intn(14)), x}[r.Intn(2)])
	case 2:
		h.Exchange(oop, 1+r.Intn(last))
	case 3:
		w.k.Space().Crown(oop)
	case 4:
		w.k.Space().Drop(r.Intn(3))
	case 5:
		h.Mark(r.Intn(9))
	case 6:
		w.k.Symbols().Back(r.Intn(40))
	default:
		h.Put(oop, i, x)
	}
}

// P18.1: kernels that are spoilt at random.
func TestSpoilt(t *testing.T) {
	r := rand.New(rand.NewSource(18))
	for range 300 {
		w, all, last := lived(t)
		for range 1 + r.Intn(12) {
			w.spoil(r, last)
		}
		askAll(t, w.k, w.b, all...)
		askAll(t, w.k, w.b, 1+r.Intn(last), 1+r.Intn(last))
	}
}

// P18.1: code that is spoilt at random, word by word.
func TestSpoiltCode(t *testing.T) {
	r := rand.New(rand.NewSource(19))
	for range 2000 {
		w := begin(t)
		words := make([]int, r.Intn(24))
		for i := range words {
			words[i] = []int{r.Intn(30), r.Intn(30), r.Intn(5), r.Intn(80) - 20, r.Intn(1<<31) - 1<<30}[r.Intn(5)]
		}
		p, _ := w.within(words...)
		context.Go(w.k, w.top(p), r.Intn(len(words)+2))
		for range r.Intn(3) {
			context.Push(w.k, w.top(p), []api.Word{num(3), null, yes, obj(w.top(p))}[r.Intn(4)])
		}
		askAll(t, w.k, w.b, p)
	}
}

// P18.1: code that would go round for ever without an event.
func TestWithoutEnd(t *testing.T) {
	w := begin(t)
	for _, words := range [][]int{
		{api.OpJump, -2}, {api.OpTrue, api.OpIfTrue, -3}, {api.OpInt, 2, api.OpInt, 1, api.OpFirst, 0, -7},
	} {
		p, _ := w.within(words...)
		if r := step.Go(w.k, w.b, p, 3); r.State != api.Failed {
			t.Fatalf("%d: %+v", words, r)
		}
	}
	// Such a one that calls made: the receiver is the context itself, whose pc is its third slot.
	c := w.class("Q", "Object", "a", "b", "c")
	m, f := method.Compile(w.k, c, "round c := 4. c := 4")
	if f.Code != api.OK {
		t.Fatalf("Compile = %+v", f)
	}
	w.keep(m)
	free := 1
	for slices.Contains(w.k.Space().Heap().All(), free) {
		free++
	}
	top, e := context.New(w.k, api.ContextInfo{Sender: null, Method: obj(m), Receiver: obj(free), Outer: null, Stack: 1}, nil)
	if top != free || e != api.OK {
		t.Fatalf("New = %d, %d, want %d", top, e, free)
	}
	p := w.process(top)
	if r := step.Go(w.k, w.b, p, 9); r.State != api.Failed || r.Used != 0 {
		t.Fatalf("%+v", r)
	}
}

// P18.1: contexts that wait for one another in a ring.
func TestRings(t *testing.T) {
	w := begin(t)
	p := w.spawn("^P new deep")
	w.wantGo(p, 200, ready(200))
	c := w.chain(p)
	w.put(c[len(c)-1], api.ContextSender, obj(c[0]))
	askAll(t, w.k, w.b, p)
	p = w.spawn("^[^3 yourself] value")
	w.wantGo(p, 2, ready(2))
	w.put(w.top(p), api.ContextOuter, obj(w.top(p)))
	askAll(t, w.k, w.b, p)
	p = w.spawn("^[^3 yourself] value")
	w.wantGo(p, 2, ready(2))
	w.put(w.top(p), api.ContextSender, obj(w.top(p)))
	askAll(t, w.k, w.b, p)
	// And a way up that leads round.
	a, b := w.class("A", "Object"), w.class("B", "A")
	w.put(a, api.ClassSuper, obj(b))
	askAll(t, w.k, w.b, w.spawn("^B new foo"), w.spawn("^A new class"))
}

// A process that has ended or failed is asked to go on: it ends.
func TestAgain(t *testing.T) {
	for _, source := range programs() {
		w := lively(t, 6000, 600)
		p := w.spawn(source)
		step.Go(w.k, w.b, p, 500)
		for range 5 {
			askAll(t, w.k, w.b, p)
		}
	}
	// Behind a send that failed its cells lie on the stack yet.
	w := begin(t)
	p := w.spawn("^3 foo: 4")
	w.wantGo(p, 9, unknown(1, "foo:"))
	w.wantGo(p, 9, ended(0, num(4)))
	p = w.spawn("3 ifTrue: [4]. ^5")
	w.wantGo(p, 9, failed(0, api.ErrBool))
}

// P18.1: a class's layout number may be any: what is run is run all the same.
func TestLayouts(t *testing.T) {
	for _, layout := range []int{0, 1, 5, api.MaxCount} {
		w := begin(t)
		w.method("P", "x: a y: b x := a. y := b")
		p := w.spawn("^(P new x: 3 y: 4; yourself) sum")
		w.put(w.named("P"), api.ClassLayout, num(layout))
		w.wantGo(p, 2, ready(2))
		w.put(w.named("P"), api.ClassLayout, num(layout/2))
		w.wantGo(p, 9, ended(3, num(7)))
	}
}
