package step_test

import (
	"slices"
	"testing"

	"kiln/api"
	"kiln/context"
	"kiln/method"
	"kiln/step"
)

// senders is who waits for each of some contexts.
func (w *world) senders(contexts ...int) []api.Word {
	var list []api.Word
	for _, c := range contexts {
		list = append(list, w.at(c, api.ContextSender))
	}
	return list
}

// chain is the contexts of a process, which the space keeps.
func (w *world) chain(p int) []int {
	w.t.Helper()
	list, e := context.Chain(w.k, w.top(p))
	if e != api.OK {
		w.t.Fatalf("Chain = %d", e)
	}
	for _, c := range list {
		w.keep(c)
	}
	return list
}

// P18.3: a method's answer goes to its sender; the context is cut.
func TestReturn(t *testing.T) {
	w := begin(t)
	w.method("P", "one 1 yourself. ^self two")
	w.method("P", "two ^2 yourself")
	p := w.spawn("^P new one")
	w.wantGo(p, 4, ready(4))
	c := w.chain(p)
	if len(c) != 3 || w.top(p) != c[0] {
		t.Fatalf("the chain is %d", c)
	}
	wantSlots(t, "the senders", w.senders(c...), obj(c[1]), obj(c[2]), null)
	// 2 yourself is done; two, one and the doit return one behind the other.
	w.wantGo(p, 1, ended(1, num(2)))
	wantSlots(t, "the senders", w.senders(c...), null, null, null)
	if w.top(p) != c[2] {
		t.Fatalf("the top context is %d, want %d", w.top(p), c[2])
	}
	for _, x := range c {
		wantSlots(t, "the stack", w.stack(x))
	}
}

// P18.3: the sender becomes the top one, with the value on its stack.
func TestReturnPushes(t *testing.T) {
	w := begin(t)
	w.method("P", "one ^7")
	p := w.spawn("^3 + P new one")
	w.wantGo(p, 1, ready(1))
	doit := w.top(p)
	wantSlots(t, "the stack", w.stack(doit)[:1], num(3))
	w.wantGo(p, 1, ready(1))
	w.wantNext(p, "send +")
	if w.top(p) != doit {
		t.Fatalf("the top context is %d, want %d", w.top(p), doit)
	}
	wantSlots(t, "the stack", w.stack(doit), num(3), num(7))
}

// P18.3: each context that becomes the top one is put into the process at once.
func TestTop(t *testing.T) {
	w := begin(t)
	w.method("P", "one ^[:a | a yourself] value: 5")
	p := w.spawn("^P new one")
	w.wantGo(p, 1, ready(1))
	doit := w.top(p)
	w.wantGo(p, 1, ready(1))
	one := w.top(p)
	w.wantGo(p, 2, ready(2))
	block := w.top(p)
	if one == doit || block == one || block == doit {
		t.Fatalf("the contexts are %d, %d, %d", doit, one, block)
	}
	if c, _ := context.Chain(w.k, block); !slices.Equal(c, []int{block, one, doit}) {
		t.Fatalf("the chain is %d", c)
	}
	x := w.info(block)
	if x.Outer != obj(one) || x.Method != w.info(one).Method || x.Receiver != w.info(one).Receiver || x.Depth != 3 || x.Temps != 1 {
		t.Fatalf("the block's context is %+v", x)
	}
	w.wantGo(p, 1, ended(1, num(5)))
}

// P18.3: a return out of a block goes to the sender of the home: each context
// up to it is cut, and keeps what else is on its stack.
func TestHomeReturn(t *testing.T) {
	w := begin(t)
	w.method("P", "try: b ^10 + (20 + (b value: 30))")
	w.method("P", "home ^1 + (self try: [:a | 40 + (a > 0 ifTrue: [^50] ifFalse: [60])])")
	p := w.spawn("^2 + P new home")
	w.wantGo(p, 5, ready(5))
	w.wantNext(p, "send >")
	c := w.chain(p)
	if len(c) != 4 {
		t.Fatalf("the chain is %d", c)
	}
	block, try, home, doit := c[0], c[1], c[2], c[3]
	w.wantGo(p, 1, ready(1))
	w.wantNext(p, "send +")
	if w.top(p) != doit {
		t.Fatalf("the top context is %d, want %d", w.top(p), doit)
	}
	wantSlots(t, "the doit's stack", w.stack(doit), num(2), num(50))
	wantSlots(t, "the senders", w.senders(block, try, home, doit), null, null, null, null)
	wantSlots(t, "the block's stack", w.stack(block), num(40))
	wantSlots(t, "try:'s stack", w.stack(try), num(10), num(20))
	wantSlots(t, "home's stack", w.stack(home), num(1))
	w.wantGo(p, 1, ended(1, num(52)))
}

// P18.3: a return out of a block of a doit ends the process; the same contexts are cut.
func TestHomeReturnEnds(t *testing.T) {
	w := begin(t)
	w.method("P", "try: b ^3 + b value")
	p := w.spawn("^1 + (P new try: [4 yourself. ^5])")
	w.wantGo(p, 4, ready(4))
	c := w.chain(p)
	w.wantGo(p, 1, ended(1, num(5)))
	wantSlots(t, "the senders", w.senders(c...), null, null, null)
	if w.top(p) != c[0] {
		t.Fatalf("the top context is %d, want %d", w.top(p), c[0])
	}
	wantSlots(t, "the block's stack", w.stack(c[0]))
	wantSlots(t, "try:'s stack", w.stack(c[1]), num(3))
	wantSlots(t, "the doit's stack", w.stack(c[2]), num(1))
}

// P18.3: through blocks within blocks, and by blocks that were handed on.
func TestHomeReturnDeep(t *testing.T) {
	w := begin(t)
	w.method("P", "a ^[[[^1] value] value] value. ")
	w.method("P", "b [[^1] value. 2] value. ^3")
	w.method("P", "c: b ^b value")
	w.method("P", "d self c: [self c: [^4]]. ^5")
	w.method("P", "e | b | b := [:n | n = 0 ifTrue: [^6]. b value: n - 1]. b value: 20. ^7")
	w.wantDoit("^P new a + 10", ended(9, num(11)))
	w.wantDoit("^P new b + 10", ended(7, num(11)))
	w.wantDoit("^P new d + 10", ended(9, num(14)))
	w.wantDoit("^P new e + 10", ended(2+1+21*2+20+1, num(16)))
}

// P18.3: where the home is not in the chain the process fails; nothing is left or popped.
func TestNoHome(t *testing.T) {
	w := begin(t)
	w.method("P", "make ^[:a | ^a]")
	w.wantDoit("^(P new make) value: 3", failed(4, api.ErrHome))
	p := w.spawn("^8 + (P new make value: 3)")
	w.wantGo(p, 4, failed(4, api.ErrHome))
	block := w.top(p)
	c := w.chain(p)
	wantSlots(t, "the senders", w.senders(c...), obj(c[1]), null)
	wantSlots(t, "the block's stack", w.stack(block), num(3))
	wantSlots(t, "the doit's stack", w.stack(c[1]), num(8))
	if x := w.info(block); x.Pc != x.Start+4 {
		t.Fatalf("the pc is %d, the start %d", x.Pc, x.Start)
	}
	// A home that waits in another process is not in this one's chain.
	q := w.spawn("G := [^1]. 2 yourself. ^3")
	w.wantGo(q, 1, ready(1))
	w.wantDoit("^G value", failed(1, api.ErrHome))
	w.wantGo(q, 1, ended(1, num(3)))
	w.wantDoit("^G value", failed(1, api.ErrHome))
	// One that has ended by a block of its own.
	w.wantDoit("[G := [^1]. ^4] value", ended(3, num(4)))
	w.wantDoit("^G value", failed(1, api.ErrHome))
}

// P18.3: the block of a home that is gone answers as any other, as long as it does not return there.
func TestHomeIsGone(t *testing.T) {
	w := begin(t)
	w.method("P", "count | n | n := 0. ^[n := n + 1]")
	w.wantDoit("G := P new count", ended(3, null))
	w.wantDoit("G value. G value. ^G value", ended(6, num(3)))
	w.wantDoit("^G value", ended(2, num(4)))
}

// P18.3: a context that runs a block's body without a sender: its answer ends the process.
func TestBlockReturnEnds(t *testing.T) {
	w := begin(t)
	p := w.spawn("G := [7]")
	w.wantGo(p, 1, ended(1, null))
	g, _ := w.k.Value(0)
	b, e := context.Block(w.k, int(g/4))
	if e != api.OK {
		t.Fatalf("Block = %d", e)
	}
	c, _ := context.New(w.k, api.ContextInfo{Sender: null, Method: b.Method, Receiver: b.Receiver, Outer: b.Outer, Pc: b.Start, Temps: b.Temps, Stack: 1}, nil)
	w.wantGo(w.process(c), 0, ended(0, num(7)))
}

// P18.2: what fails has changed nothing but the pc: so it can be told again what it failed by.
func TestFailedStays(t *testing.T) {
	w := begin(t)
	for _, c := range []struct {
		source string
		code   api.Errno
		stack  []api.Word
	}{
		{"^1 + (2 foo: 3 bar: 4)", api.ErrUnderstood, []api.Word{num(1), num(2), num(3), num(4)}},
		{"^1 + (2 // 0)", api.ErrZero, []api.Word{num(1), num(2), num(0)}},
		{"^1 + (2 + nil)", api.ErrPrim, []api.Word{num(1), num(2), null}},
		{"^1 + (Array new: -1)", api.ErrPrim, []api.Word{num(1), obj(api.Array), num(-1)}},
	} {
		p := w.spawn(c.source)
		w.wantGo(p, 0, ready(0))
		was, top := w.info(w.top(p)), w.top(p)
		r := step.Go(w.k, w.b, p, 1)
		if r.State != api.Failed || r.Code != c.code || r.Used != 1 {
			t.Fatalf("%q: %+v", c.source, r)
		}
		was.Pc += 3
		if now := w.info(top); w.top(p) != top || now != was {
			t.Fatalf("%q: %+v, want %+v", c.source, now, was)
		}
		wantSlots(t, c.source, w.stack(top), c.stack...)
	}
}

// P18.3: a method without statements, and one whose last statement is no return, answers the receiver.
func TestAnswersSelf(t *testing.T) {
	w := begin(t)
	w.method("P", "nothing")
	w.method("P", "something 3")
	w.wantDoit("| p | p := P new. ^p nothing == p", ended(3, yes))
	w.wantDoit("| p | p := P new. ^p something == p", ended(3, yes))
	m, f := method.Compile(w.k, w.named("P"), "nothing")
	if f.Code != api.OK {
		t.Fatalf("Compile = %+v", f)
	}
	w.wantGo(w.runs(m, num(9)), 0, ended(0, num(9)))
}

// P18.2: a sender that has no cell for the value: nothing has changed but the pc.
func TestSenderIsFull(t *testing.T) {
	w := begin(t)
	m := w.keep(w.method("P", "seven ^7"))
	x := api.ContextInfo{Sender: null, Method: obj(m), Receiver: null, Outer: null, Stack: 1}
	waits, _ := context.New(w.k, x, nil)
	context.Push(w.k, w.keep(waits), num(1))
	x.Sender = obj(waits)
	top, e := context.New(w.k, x, nil)
	if e != api.OK {
		t.Fatalf("New = %d", e)
	}
	p := w.process(top)
	w.wantGo(p, 0, failed(0, api.ErrContext))
	wantSlots(t, "the stack", w.stack(top), num(7))
	wantSlots(t, "the sender's stack", w.stack(waits), num(1))
	wantSlots(t, "the senders", w.senders(top, waits), obj(waits), null)
	if w.top(p) != top || w.info(top).Pc != 3 {
		t.Fatalf("the top context is %d, its pc %d", w.top(p), w.info(top).Pc)
	}
}
