package step_test

import (
	"strconv"
	"strings"
	"testing"

	"kiln/api"
	"kiln/context"
	"kiln/step"
)

// P18.4: a method's context, as it begins.
func TestContextOfMethod(t *testing.T) {
	w := begin(t)
	m := w.method("P", "a: a b: b | c d | c := a + b. ^[c]")
	p := w.spawn("^P new a: 3 b: 4")
	w.wantGo(p, 1, ready(1))
	doit := w.top(p)
	cells := w.stack(doit)
	w.wantGo(p, 1, ready(1))
	want := api.ContextInfo{Sender: obj(doit), Method: obj(m), Receiver: cells[0], Outer: null, Pc: 6, Depth: 2, Top: 2, Temps: 4, Stack: 2}
	if x := w.info(w.top(p)); x != want {
		t.Fatalf("the context is %+v, want %+v", x, want)
	}
	wantSlots(t, "the temporaries", w.slots(w.top(p))[api.ContextSlots:][:4], num(3), num(4), null, null)
	wantSlots(t, "the sender's stack", w.stack(doit))
	if len(cells) != 3 {
		t.Fatalf("the sender had %d on its stack", cells)
	}
}

// P18.4: arguments in their order, up to eight.
func TestArguments(t *testing.T) {
	w := begin(t)
	head, send, block := "", "", ""
	for i := range 8 {
		head += "k: a" + strconv.Itoa(i) + " "
		send += "k: " + strconv.Itoa(i) + " "
		block += ":a" + strconv.Itoa(i) + " "
	}
	all := "a0 * 10 + a1 * 10 + a2 * 10 + a3 * 10 + a4 * 10 + a5 * 10 + a6 * 10 + a7"
	w.method("P", head+"^"+all)
	w.wantDoit("^P new "+send, ended(16, num(1234567)))
	w.wantDoit("^["+block+"| "+all+"] "+strings.ReplaceAll(send, "k:", "value:"), ended(16, num(1234567)))
}

// P18.4: which method or primitive is found.
func TestFound(t *testing.T) {
	w := begin(t)
	w.class("Q", "P")
	w.method("P", "foo ^1")
	w.wantDoit("^Q new foo", ended(2, num(1)))
	w.method("Q", "foo ^2")
	w.wantDoit("^Q new foo", ended(2, num(2)))
	w.wantDoit("^P new foo", ended(2, num(1)))
	// A user's method stands over a primitive of the same class.
	w.method("Integer", "negated ^100")
	w.wantDoit("^3 negated", ended(1, num(100)))
	w.wantDoit("^3 abs", ended(1, num(3)))
	// A primitive of a class stands over a method of its superclass.
	w.method("Object", "size ^200")
	w.method("Object", "+ x ^300")
	w.wantDoit("^#(1 2 3) size", ended(1, num(3)))
	w.wantDoit("^nil size", ended(1, num(200)))
	w.wantDoit("^3 + 4", ended(1, num(7)))
	w.wantDoit("^nil + 4", ended(1, num(300)))
	// A method of a class stands over a primitive of its superclass.
	w.method("P", "yourself ^400")
	w.wantDoit("^P new yourself", ended(2, num(400)))
	w.wantDoit("^Q new yourself", ended(2, num(400)))
	w.wantDoit("^nil yourself", ended(1, null))
	w.method("Object", "isNil ^500")
	w.wantDoit("^nil isNil", ended(1, num(500)))
	w.method("Integer", "= x ^600")
	w.wantDoit("^3 = 3", ended(1, num(600)))
	w.wantDoit("^#a = #a", ended(1, yes))
	// Behind its removal the primitive is found again.
	w.b.Remove(w.named("Integer"), "negated")
	w.wantDoit("^3 negated", ended(1, num(-3)))
}

// P18.4: a method over the activation of blocks.
func TestValueOverwritten(t *testing.T) {
	w := begin(t)
	w.method("Object", "value ^1")
	w.method("Object", "value: x ^2")
	w.wantDoit("^[3] value", ended(2, num(3)))
	w.wantDoit("^nil value", ended(1, num(1)))
	w.wantDoit("^nil value: 3", ended(1, num(2)))
	w.wantDoit("^[3] value: 4", failed(2, api.ErrPrim))
	w.method("Block", "value ^4")
	w.wantDoit("^[3] value", ended(2, num(4)))
	w.wantDoit("^[:a | a] value: 5", ended(2, num(5)))
	w.wantDoit("^[:a | a] numArgs", ended(2, num(1)))
	w.wantDoit("^nil value: 3 value: 4", unknown(1, "value:value:"))
}

// P18.4: super is sought from above the method's class, not from above the receiver's.
func TestSuper(t *testing.T) {
	w := begin(t)
	w.class("Q", "P")
	w.class("R", "Q")
	for class, n := range map[string]string{"Object": "1", "P": "2", "Q": "3", "R": "4"} {
		w.method(class, "foo ^"+n)
	}
	w.method("P", "p ^super foo")
	w.method("Q", "q ^super foo")
	w.method("Q", "block ^[:a | super foo + a] value: 10")
	w.method("R", "r ^super foo; bar")
	w.wantDoit("^R new p", ended(3, num(1)))
	w.wantDoit("^R new q", ended(3, num(2)))
	w.wantDoit("^R new block", ended(6, num(12)))
	w.wantDoit("^R new r", unknown(4, "bar"))
	// A primitive above, a method above; the receiver is self.
	w.method("P", "isNil ^99")
	w.method("P", "yes ^super isNil")
	w.method("Integer", "yourself ^super yourself + 1")
	w.wantDoit("^P new yes", ended(3, no))
	w.wantDoit("^3 yourself", ended(3, num(4)))
	// In a doit super is what is above UndefinedObject.
	w.method("UndefinedObject", "foo ^5")
	w.wantDoit("^super foo", ended(1, num(1)))
	w.wantDoit("^nil foo", ended(1, num(5)))
	w.wantDoit("^super isNil", ended(1, yes))
}

// P18.4: above Object nothing is found, neither a method nor a primitive.
func TestSuperOfObject(t *testing.T) {
	w := begin(t)
	w.method("Object", "foo ^super foo")
	w.method("Object", "bar ^super isNil")
	w.wantDoit("^3 foo", unknown(2, "foo"))
	w.wantDoit("^P new bar", unknown(3, "isNil"))
	w.method("Integer", "doesNotUnderstand: m ^m selector size")
	w.wantDoit("^3 bar", ended(4, num(5)))
	w.method("Object", "baz: x ^super doesNotUnderstand: x")
	w.wantDoit("^3 baz: 4", unknown(2, "doesNotUnderstand:"))
}

// P18.4: the Message and its Array.
func TestMessage(t *testing.T) {
	w := begin(t)
	w.wantDoit("^P new zork", unknown(2, "zork"))
	w.method("P", "doesNotUnderstand: m G := m. ^7")
	message := func() []api.Word {
		g, _ := w.k.Value(0)
		if c, _ := w.k.Of(g); c != api.Message {
			t.Fatalf("G is of the class %d", c)
		}
		return w.slots(int(g / 4))
	}
	w.wantDoit("^P new a: 3 b: #Object c: nil", ended(2, num(7)))
	x := message()
	if len(x) != 2 || x[0] != api.Word(4*w.symbol("a:b:c:")+2) {
		t.Fatalf("the message is %d", x)
	}
	if c, _ := w.k.Of(x[1]); c != api.Array {
		t.Fatalf("its arguments are of the class %d", c)
	}
	wantSlots(t, "its arguments", w.slots(int(x[1]/4)), num(3), 2, null)
	w.wantDoit("^P new zork", ended(2, num(7)))
	if x = message(); x[0] != api.Word(4*w.symbol("zork")+2) || x[1] != empty {
		t.Fatalf("the message is %d", x)
	}
	w.wantDoit("^P new + 9", ended(2, num(7)))
	if x = message(); x[0] != api.Word(4*w.symbol("+")+2) {
		t.Fatalf("the message is %d", x)
	}
	wantSlots(t, "its arguments", w.slots(int(x[1]/4)), num(9))
	// The selector itself goes to the method, as any other.
	w.wantDoit("^P new doesNotUnderstand: 3", ended(2, num(7)))
	if g, _ := w.k.Value(0); g != num(3) {
		t.Fatalf("G is %d", g)
	}
}

// P18.4: the context of doesNotUnderstand:, as it begins.
func TestContextOfNotUnderstood(t *testing.T) {
	w := begin(t)
	m := w.method("P", "doesNotUnderstand: m | a | ^m arguments")
	p := w.spawn("^P new a: 3 b: 4")
	w.wantGo(p, 1, ready(1))
	doit := w.top(p)
	receiver := w.stack(doit)[0]
	w.wantGo(p, 1, ready(1))
	w.wantNext(p, "send arguments")
	x := w.info(w.top(p))
	want := api.ContextInfo{Sender: obj(doit), Method: obj(m), Receiver: receiver, Outer: null, Pc: 3, Depth: 2, Top: 1, Temps: 2, Stack: 1}
	if x != want {
		t.Fatalf("the context is %+v, want %+v", x, want)
	}
	wantSlots(t, "the sender's stack", w.stack(doit))
}

// P18.4: methods alone are asked for doesNotUnderstand:, from the receiver's class up.
func TestWhoIsTold(t *testing.T) {
	w := begin(t)
	w.class("Q", "P")
	w.wantDoit("^3 doesNotUnderstand: 4", unknown(1, "doesNotUnderstand:"))
	w.method("Object", "doesNotUnderstand: m ^1")
	w.method("P", "doesNotUnderstand: m ^2")
	w.wantDoit("^3 zork", ended(1, num(1)))
	w.wantDoit("^Q new zork", ended(2, num(2)))
	w.wantDoit("^Object new zork", ended(2, num(1)))
	w.wantDoit("^nil + 3", ended(1, num(1)))
	w.method("P", "zork ^super zork")
	w.wantDoit("^Q new zork", ended(3, num(2)))
	// Within doesNotUnderstand: it may be not understood once more.
	w.method("Integer", "doesNotUnderstand: m ^m zork: self")
	w.method("Message", "zork: x ^x")
	w.wantDoit("^3 zork", ended(2, num(3)))
}

// P18.4: blocks: the number of parameters, looked at ahead of all else.
func TestBlockParameters(t *testing.T) {
	w := begin(t)
	all := []string{"value", "value: 1", "value: 1 value: 2", "value: 1 value: 2 value: 3"}
	for i, block := range []string{"[9]", "[:a | 9]", "[:a :b | 9]", "[:a :b :c | 9]"} {
		for j, send := range all {
			want := failed(2, api.ErrPrim)
			if i == j {
				want = ended(2, num(9))
			}
			w.wantDoit("^"+block+" "+send, want)
		}
	}
	w.wantDoit("^[] value", ended(2, null))
	w.wantDoit("^[:a | ] value: 3", ended(2, null))
	w.wantDoit("^[:a | | b | b] value: 3", ended(2, null))
}

// P18.4: a block's context, as it begins.
func TestContextOfBlock(t *testing.T) {
	w := begin(t)
	m := w.method("P", "make | a | a := 3. ^[:b | | c | c := a. b + c]")
	p := w.spawn("^P new make value: 8")
	w.wantGo(p, 3, ready(3))
	doit := w.top(p)
	b, e := context.Block(w.k, int(w.stack(doit)[0]/4))
	if e != api.OK {
		t.Fatalf("Block = %d", e)
	}
	w.wantGo(p, 1, ready(1))
	w.wantNext(p, "send +")
	x := w.info(w.top(p))
	want := api.ContextInfo{Sender: obj(doit), Method: obj(m), Receiver: b.Receiver, Outer: b.Outer, Pc: x.Pc, Depth: 2, Top: 2, Temps: 2, Stack: 2, Start: b.Start}
	if x != want || x.Pc <= x.Start {
		t.Fatalf("the context is %+v, want %+v", x, want)
	}
	wantSlots(t, "the temporaries", w.slots(w.top(p))[api.ContextSlots:][:2], num(8), num(3))
	w.wantGo(p, 1, ended(1, num(11)))
}

// P18.4: a block whose method is stale; its parameters are looked at first.
func TestStaleBlock(t *testing.T) {
	w := begin(t)
	c := w.named("P")
	w.method("P", "keep G := [x]. ^nil")
	w.wantDoit("P new keep", ended(3, null))
	w.wantDoit("^G value", ended(1, null))
	for _, layout := range []int{1, 2, api.MaxCount} {
		w.put(c, api.ClassLayout, num(layout))
		p := w.spawn("^4 + G value")
		w.wantGo(p, 9, failed(1, api.ErrStale))
		if x := w.stack(w.top(p)); len(x) != 2 || x[0] != num(4) {
			t.Fatalf("the stack is %d", x)
		}
		w.wantDoit("^G value: 1", failed(1, api.ErrPrim))
	}
	w.put(c, api.ClassLayout, num(0))
	w.wantDoit("^G value", ended(1, null))
	// A block of a doit is stale if UndefinedObject is.
	w.wantDoit("G := [7]", ended(1, null))
	w.put(c, api.ClassLayout, num(1))
	w.wantDoit("^G value", ended(1, num(7)))
	w.put(api.UndefinedObject, api.ClassLayout, num(1))
	w.wantDoit("^G value", failed(1, api.ErrStale))
	// Methods that are found are run, stale or not.
	w.wantDoit("^P new keep", ended(3, null))
}

// P18.4: what a primitive fails by, and what it answers.
func TestPrimitives(t *testing.T) {
	w := begin(t)
	for source, code := range map[string]api.Errno{
		"^1 // 0": api.ErrZero, "^1 \\\\ 0": api.ErrZero, "^#(1) at: 2": api.ErrIndex, "^#(1) at: nil": api.ErrPrim,
		"^'abc' at: 4": api.ErrIndex, "^'abc' at: 1 put: 256": api.ErrPrim, "^Integer new": api.ErrPrim, "^String new: 8193": api.ErrPrim,
		"^'' asSymbol": api.ErrPrim, "^3 instVarAt: 1": api.ErrIndex, "^true & 3": api.ErrPrim, "^true and: 3": api.ErrPrim,
	} {
		w.wantDoit(source, failed(1, code))
	}
	for source, value := range map[string]api.Word{
		"^#(1 2) at: 2": num(2), "^'abc' at: 1": num(97), "^nil class": obj(api.UndefinedObject), "^Array new: 0": empty,
		"^'Object' asSymbol": 2, "^3 class": obj(api.Integer), "^#Object size": num(6), "^true and: true": yes, "^P superclass": obj(api.Object),
	} {
		w.wantDoit(source, ended(1, value))
	}
	w.wantDoit("| p | p := P new. p instVarAt: 2 put: 9. ^p instVarAt: 2", ended(3, num(9)))
	w.wantDoit("^P new x: 1", unknown(2, "x:"))
}

// P18.4: no symbol more: the process fails, and what it did stays done.
func TestNoSymbol(t *testing.T) {
	w := begin(t)
	p := w.spawn("'one' asSymbol. 'two' asSymbol. ^3")
	for i := 0; w.k.Symbols().Count() < api.MaxSymbols-1; i++ {
		w.k.Symbols().Add("s" + strconv.Itoa(i))
	}
	w.wantGo(p, 9, failed(2, api.ErrSymbols))
	if _, there := w.k.Symbols().Find("one"); !there || w.k.Symbols().Count() != api.MaxSymbols {
		t.Fatal("the first symbol is gone")
	}
}

// P18.4: the chain is as long as it may be.
func TestDepth(t *testing.T) {
	w := begin(t)
	w.method("Object", "down: n ^n = 0 ifTrue: [0] ifFalse: [1 + (self down: n - 1)]")
	// The doit is the first context, and the last one is for n = 0.
	w.wantDoit("^3 down: 254", ended(1+254*4+1, num(254)))
	w.wantDoit("^3 down: 255", failed(1+254*3+3, api.ErrDeepRun))
	w.wantDoit("| b | b := [:n | n = 0 ifTrue: [0] ifFalse: [1 + (b value: n - 1)]]. ^b value: 254", ended(2+254*4+1, num(254)))
	w.wantDoit("| b | b := [:n | n = 0 ifTrue: [0] ifFalse: [1 + (b value: n - 1)]]. ^b value: 255", failed(2+254*3+3, api.ErrDeepRun))
}

// P18.4: at the last depth primitives still go; a send fails ahead of all allocations.
func TestAtTheLastDepth(t *testing.T) {
	w := beginIn(t, 200000, 20000)
	w.method("Object", "down: n do: b n = 0 ifTrue: [^b value]. ^self down: n - 1 do: b")
	w.method("Integer", "doesNotUnderstand: m ^7")
	deepest := func(body string) int {
		p := w.spawn("^3 down: 253 do: [" + body + "]")
		w.wantGo(p, 2+3*253+2, ready(2+3*253+2))
		if d := w.info(w.top(p)).Depth; d != api.MaxContexts {
			t.Fatalf("the depth is %d", d)
		}
		return p
	}
	w.wantGo(deepest("4 + 5"), 9, ended(1, num(9)))
	w.wantGo(deepest("P new. 6 yourself"), 9, ended(2, num(6)))
	w.wantGo(deepest("[3] numArgs"), 9, ended(2, num(0)))
	w.wantGo(deepest("nil zork"), 9, unknown(1, "zork"))
	for _, body := range []string{"P new sum", "[1] value", "4 zork: 5", "4 zork", "4 down: 1 do: 2"} {
		p := deepest("3 yourself. " + body)
		w.wantGo(p, 1, ready(1))
		if strings.HasPrefix(body, "P") || strings.HasPrefix(body, "[") {
			w.wantGo(p, 1, ready(1))
		}
		top := w.top(p)
		was := w.stack(top)
		objects, mark := len(w.k.Space().Heap().All()), w.k.Space().Heap().Mark(1)
		w.wantGo(p, 1, failed(1, api.ErrDeepRun))
		if mark != api.OK || w.k.Space().Heap().Marked() != 1 || len(w.k.Space().Heap().All()) != objects {
			t.Fatalf("%q has allocated something", body)
		}
		w.k.Space().Heap().Mark(0)
		wantSlots(t, body, w.stack(top), was...)
		if w.top(p) != top {
			t.Fatalf("%q: the top context is %d, want %d", body, w.top(p), top)
		}
	}
	// ErrPrim and ErrStale are looked at ahead of the depth, ErrUnderstood too.
	w.wantGo(deepest("[:a | a] value"), 9, failed(2, api.ErrPrim))
	w.wantDoit("G := nil", ended(0, null))
	w.method("P", "keep G := [x]")
	w.wantDoit("P new keep", ended(3, null))
	w.put(w.named("P"), api.ClassLayout, num(1))
	w.wantGo(deepest("G value"), 9, failed(1, api.ErrStale))
}

// P18.4: cascades, and messages to the receiver of them.
func TestCascades(t *testing.T) {
	w := begin(t)
	w.method("P", "x: a x := a")
	w.method("P", "y: b y := b")
	w.wantDoit("^P new x: 3; y: 4; sum", ended(5, num(7)))
	w.wantDoit("^3 + 4; * 5; - 6", ended(3, num(-3)))
}

// P18.2: a fuel below 0 is as 0.
func TestFuelBelow(t *testing.T) {
	w := begin(t)
	for _, fuel := range []int{0, -1, -1 << 62} {
		w.wantGo(w.spawn("^3"), fuel, ended(0, num(3)))
		p := w.spawn("^3 + 4")
		w.wantGo(p, fuel, ready(0))
		w.wantNext(p, "send +")
	}
	p := w.spawn("^3 + 4")
	if r := step.Go(w.k, w.b, p, 1<<40); r != ended(1, num(7)) {
		t.Fatalf("%+v", r)
	}
}
