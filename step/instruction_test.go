package step_test

import (
	"slices"
	"strings"
	"testing"

	"kiln/api"
	"kiln/context"
)

const (
	slotsOfAll = 2 // the temporaries of each context below
	cellsOfAll = 4 // and its cells
)

// stop is an event, ahead of which a process stands, whatever is on its stack.
func stop() []int { return []int{api.OpBlock, 0, 0, 2, api.OpNil, api.OpBlockReturn} }

// coded is a method of P with these words of code, two literals (a String, an
// empty Array), and room for what they do.
func (w *world) coded(words ...int) int {
	w.t.Helper()
	s := w.k.Space()
	code, _ := s.Alloc(obj(api.Array), len(words), api.FormatWords)
	w.keep(int(code / 4))
	for i, n := range words {
		w.put(int(code/4), i, num(n))
	}
	text, _ := s.Alloc(obj(api.String), 1, api.FormatBytes)
	w.keep(int(text / 4))
	literals, _ := s.Alloc(obj(api.Array), 2, api.FormatWords)
	w.keep(int(literals / 4))
	w.put(int(literals/4), 0, text)
	w.put(int(literals/4), 1, empty)
	m, e := s.Alloc(obj(api.Method), api.MethodSlots, api.FormatWords)
	if e != api.OK {
		w.t.Fatalf("Alloc = %d", e)
	}
	for i, x := range []api.Word{null, obj(w.named("P")), num(0), num(0), num(slotsOfAll), num(cellsOfAll), literals, code, text} {
		w.put(int(m/4), i, x)
	}
	s.Drop(3)
	return int(m / 4)
}

// instance is a P, which the space keeps.
func (w *world) instance(x, y api.Word) api.Word {
	w.t.Helper()
	o, e := w.k.Space().Alloc(obj(w.named("P")), 2, api.FormatWords)
	if e != api.OK {
		w.t.Fatalf("Alloc = %d", e)
	}
	w.put(int(o/4), 0, x)
	w.put(int(o/4), 1, y)
	w.keep(int(o / 4))
	return o
}

// within is a process of these words, in a context whose outer is another one
// of the same method; the receiver is a P of 5 and 6, the temporaries are 10,
// 11, the outer's 20, 21.
func (w *world) within(words ...int) (p, outer int) {
	w.t.Helper()
	m := w.keep(w.coded(words...))
	x := api.ContextInfo{Sender: null, Method: obj(m), Receiver: w.instance(num(5), num(6)), Outer: null, Temps: slotsOfAll, Stack: cellsOfAll}
	outer, _ = context.New(w.k, x, []api.Word{num(20), num(21)})
	x.Outer = obj(w.keep(outer))
	inner, e := context.New(w.k, x, []api.Word{num(10), num(11)})
	if e != api.OK {
		w.t.Fatalf("New = %d", e)
	}
	return w.process(inner), outer
}

// wantStop lets a process come to its first event: what lies on its stack
// there, and at which place that is.
func (w *world) wantStop(p, pc int, want ...api.Word) {
	w.t.Helper()
	w.wantGo(p, 0, ready(0))
	x := w.info(w.top(p))
	if x.Pc != pc {
		w.t.Fatalf("the pc is %d, want %d", x.Pc, pc)
	}
	wantSlots(w.t, "the stack", w.stack(w.top(p)), want...)
	// What was popped is nil.
	cells := w.slots(w.top(p))[api.ContextSlots+x.Temps:]
	for _, c := range cells[x.Top:] {
		if c != null {
			w.t.Fatalf("the cells are %d, of which %d hold something", cells, x.Top)
		}
	}
}

// P18.3: what is pushed.
func TestPushes(t *testing.T) {
	w := begin(t)
	w.k.SetValue(0, num(77))
	w.global("H")
	w.k.SetValue(1, num(78))
	p, _ := w.within(api.OpSelf)
	receiver := w.info(w.top(p)).Receiver
	for _, c := range []struct {
		words []int
		want  api.Word
	}{
		{[]int{api.OpNil}, null}, {[]int{api.OpTrue}, yes}, {[]int{api.OpFalse}, no},
		{[]int{api.OpInt, 0}, num(0)}, {[]int{api.OpInt, api.LeastInt}, num(api.LeastInt)}, {[]int{api.OpInt, api.MostInt}, num(api.MostInt)},
		{[]int{api.OpSym, 0}, 2}, {[]int{api.OpSym, 13}, 54},
		{[]int{api.OpClass, 1}, obj(api.Object)}, {[]int{api.OpClass, 14}, obj(api.Message)}, {[]int{api.OpClass, 15}, obj(w.named("P"))},
		{[]int{api.OpField, 0}, num(5)}, {[]int{api.OpField, 1}, num(6)},
		{[]int{api.OpTemp, 0, 0}, num(10)}, {[]int{api.OpTemp, 0, 1}, num(11)}, {[]int{api.OpTemp, 1, 0}, num(20)}, {[]int{api.OpTemp, 1, 1}, num(21)},
		{[]int{api.OpGlobal, 0}, num(77)}, {[]int{api.OpGlobal, 1}, num(78)},
		{[]int{api.OpLit, 1}, empty},
	} {
		p, _ := w.within(slices.Concat(c.words, stop())...)
		w.wantStop(p, len(c.words), c.want)
		p, _ = w.within(slices.Concat([]int{api.OpInt, 1}, c.words, stop())...)
		w.wantStop(p, 2+len(c.words), num(1), c.want)
	}
	p, _ = w.within(slices.Concat([]int{api.OpSelf}, stop())...)
	w.wantStop(p, 1, w.info(w.top(p)).Receiver)
	if w.info(w.top(p)).Receiver == receiver {
		t.Fatal("each has a receiver of its own")
	}
	p, _ = w.within(slices.Concat([]int{api.OpLit, 0, api.OpLit, 0}, stop())...)
	m := int(w.info(w.top(p)).Method / 4)
	text := w.at(int(w.at(m, api.MethodLiterals)/4), 0)
	w.wantStop(p, 4, text, text)
}

// P18.3: what is stored stays on the stack, and nothing else is changed.
func TestStores(t *testing.T) {
	w := begin(t)
	w.global("H")
	for i := range 2 {
		p, _ := w.within(slices.Concat([]int{api.OpInt, 1, api.OpInt, 99, api.OpStoreField, i}, stop())...)
		w.wantStop(p, 6, num(1), num(99))
		want := []api.Word{num(5), num(6)}
		want[i] = num(99)
		wantSlots(t, "the receiver", w.slots(int(w.info(w.top(p)).Receiver/4)), want...)

		p, _ = w.within(slices.Concat([]int{api.OpInt, 1, api.OpInt, 99, api.OpStoreGlobal, i}, stop())...)
		w.wantStop(p, 6, num(1), num(99))
		for g := range 2 {
			if v, _ := w.k.Value(g); (v == num(99)) != (g == i) {
				t.Fatalf("behind a store to %d the global %d is %d", i, g, v)
			}
		}
		w.k.SetValue(i, null)
		for d := range 2 {
			p, outer := w.within(slices.Concat([]int{api.OpInt, 1, api.OpInt, 99, api.OpStoreTemp, d, i}, stop())...)
			w.wantStop(p, 7, num(1), num(99))
			temps := []api.Word{num(10), num(11), num(20), num(21)}
			temps[2*d+i] = num(99)
			inner := w.slots(w.top(p))[api.ContextSlots:][:slotsOfAll]
			wantSlots(t, "the temporaries", append(inner, w.slots(outer)[api.ContextSlots:][:slotsOfAll]...), temps...)
		}
	}
}

// P18.3: Pop and Dup.
func TestPopDup(t *testing.T) {
	w := begin(t)
	p, _ := w.within(slices.Concat([]int{api.OpInt, 1, api.OpInt, 2, api.OpPop}, stop())...)
	w.wantStop(p, 5, num(1))
	p, _ = w.within(slices.Concat([]int{api.OpInt, 1, api.OpPop}, stop())...)
	w.wantStop(p, 3)
	p, _ = w.within(slices.Concat([]int{api.OpInt, 1, api.OpInt, 2, api.OpDup}, stop())...)
	w.wantStop(p, 5, num(1), num(2), num(2))
}

// P18.3: jumps on, and conditions.
func TestJumps(t *testing.T) {
	w := begin(t)
	p, _ := w.within(slices.Concat([]int{api.OpInt, 1, api.OpJump, 0}, stop())...)
	w.wantStop(p, 4, num(1))
	p, _ = w.within(slices.Concat([]int{api.OpInt, 1, api.OpJump, 3, api.OpNil, api.OpInt, 2}, stop())...)
	w.wantStop(p, 7, num(1))
	for _, c := range []struct {
		op, boolean int
		jumps       bool
	}{
		{api.OpIfTrue, api.OpTrue, true}, {api.OpIfTrue, api.OpFalse, false},
		{api.OpIfFalse, api.OpFalse, true}, {api.OpIfFalse, api.OpTrue, false},
	} {
		p, _ = w.within(slices.Concat([]int{api.OpInt, 1, c.boolean, c.op, 2, api.OpInt, 2}, stop())...)
		if c.jumps {
			w.wantStop(p, 7, num(1))
		} else {
			w.wantStop(p, 7, num(1), num(2))
		}
	}
}

// P18.3: a condition that is no boolean; the cell stays, the pc stands behind the instruction.
func TestNoBoolean(t *testing.T) {
	w := begin(t)
	for _, op := range []int{api.OpIfTrue, api.OpIfFalse} {
		for _, other := range [][]int{{api.OpNil}, {api.OpInt, 0}, {api.OpInt, 1}, {api.OpSym, 3}, {api.OpSelf}, {api.OpClass, 3}, {api.OpClass, 4}, {api.OpLit, 1}} {
			p, _ := w.within(slices.Concat(other, []int{op, 1, api.OpPop}, stop())...)
			w.wantGo(p, 9, failed(0, api.ErrBool))
			x := w.info(w.top(p))
			if x.Pc != len(other)+2 || x.Top != 1 {
				t.Fatalf("the pc is %d, the top %d", x.Pc, x.Top)
			}
		}
	}
}

// P18.3: a loop begins, or is gone by.
func TestFirst(t *testing.T) {
	w := begin(t)
	for _, c := range []struct {
		from, to int
		goes     bool
	}{
		{1, 3, true}, {3, 3, true}, {4, 3, false}, {-1, 0, true}, {0, -1, false},
		{api.LeastInt, api.MostInt, true}, {api.MostInt, api.LeastInt, false}, {api.MostInt, api.MostInt, true}, {api.LeastInt, api.LeastInt, true},
	} {
		p, outer := w.within(slices.Concat([]int{api.OpInt, 9, api.OpInt, c.from, api.OpInt, c.to, api.OpFirst, 1, 2, api.OpInt, 8}, stop())...)
		if c.goes {
			w.wantStop(p, 11, num(9), num(c.to), num(8))
		} else {
			w.wantStop(p, 11, num(9))
		}
		// The slot is the top context's own, and is stored to either way.
		wantSlots(t, "the slots", w.slots(w.top(p))[api.ContextSlots:][:slotsOfAll], num(10), num(c.from))
		wantSlots(t, "the outer's", w.slots(outer)[api.ContextSlots:][:slotsOfAll], num(20), num(21))
	}
}

// P18.3: what is no integer; nothing is stored or popped then.
func TestFirstOfOthers(t *testing.T) {
	w := begin(t)
	ints := [][]int{{api.OpInt, 3}}
	others := [][]int{{api.OpNil}, {api.OpTrue}, {api.OpSym, 1}, {api.OpSelf}, {api.OpClass, 5}}
	for _, x := range others {
		for _, pair := range [][][]int{{x, ints[0]}, {ints[0], x}, {x, x}} {
			words := slices.Concat(pair...)
			p, _ := w.within(slices.Concat(words, []int{api.OpFirst, 0, 0}, stop())...)
			w.wantGo(p, 9, failed(0, api.ErrPrim))
			at := w.info(w.top(p))
			if at.Pc != len(words)+3 || at.Top != 2 {
				t.Fatalf("%d: the pc is %d, the top %d", words, at.Pc, at.Top)
			}
			wantSlots(t, "the slots", w.slots(w.top(p))[api.ContextSlots:][:slotsOfAll], num(10), num(11))
		}
	}
}

// round is a process that stands ahead of a Next of the slot 1, which holds
// now, the last round being that of last.
func (w *world) round(now, last api.Word) (p int) {
	w.t.Helper()
	words := slices.Concat([]int{api.OpInt, 9, api.OpNil, api.OpNext, 1, 4}, stop())
	p, _ = w.within(words...)
	c := w.top(p)
	context.Push(w.k, c, num(9))
	context.Push(w.k, c, last)
	context.Go(w.k, c, 3)
	context.SetTemp(w.k, c, 0, 1, now)
	return p
}

// P18.2, P18.3: a loop goes round, which is an event, or ends, which is none.
func TestNextRound(t *testing.T) {
	w := begin(t)
	for _, c := range []struct{ now, last, then int }{
		{1, 3, 2}, {-1, 3, 0}, {5, 3, 6}, {api.MostInt, 0, api.LeastInt}, {api.LeastInt, api.MostInt, api.LeastInt + 1}, {0, -1, 1},
	} {
		p := w.round(num(c.now), num(c.last))
		w.wantGo(p, 0, ready(0))
		w.wantNext(p, "jump")
		// It goes back to Nil, then, and comes to Next again.
		w.wantGo(p, 1, failed(1, api.ErrPrim))
		at := w.info(w.top(p))
		wantSlots(t, "the stack", w.stack(w.top(p)), num(9), num(c.last), null)
		wantSlots(t, "the slots", w.slots(w.top(p))[api.ContextSlots:][:slotsOfAll], num(10), num(c.then))
		if at.Pc != 6 {
			t.Fatalf("the pc is %d", at.Pc)
		}
	}
	for _, n := range []int{0, 3, -1, api.MostInt, api.LeastInt} {
		p := w.round(num(n), num(n))
		w.wantNext(p, "")
		w.wantStop(p, 6, num(9))
		wantSlots(t, "the slots", w.slots(w.top(p))[api.ContextSlots:][:slotsOfAll], num(10), num(n))
	}
}

// P18.3: a slot or a cell that holds no number: no event.
func TestNextOfOthers(t *testing.T) {
	w := begin(t)
	for _, pair := range [][2]api.Word{{null, num(3)}, {num(3), null}, {null, null}, {yes, yes}, {2, 2}, {2, num(1)}, {num(1), obj(api.Object)}} {
		p := w.round(pair[0], pair[1])
		w.wantNext(p, "")
		w.wantGo(p, 9, failed(0, api.ErrPrim))
		if at := w.info(w.top(p)); at.Pc != 6 || at.Top != 2 {
			t.Fatalf("%d: the pc is %d, the top %d", pair, at.Pc, at.Top)
		}
		wantSlots(t, "the slots", w.slots(w.top(p))[api.ContextSlots:][:slotsOfAll], num(10), pair[0])
	}
}

// P18.2: a jump back is an event.
func TestBack(t *testing.T) {
	w := begin(t)
	p, _ := w.within(api.OpInt, 1, api.OpPop, api.OpBack, 5)
	for range 3 {
		w.wantGo(p, 0, ready(0))
		w.wantNext(p, "jump")
		w.wantStop(p, 3)
		w.wantGo(p, 1, ready(1))
		w.wantStop(p, 3)
	}
	w.wantGo(p, 17, ready(17))
	// Going back by fewer words, it comes to the place between.
	p, _ = w.within(api.OpNil, api.OpPop, api.OpInt, 1, api.OpPop, api.OpBack, 5)
	w.wantGo(p, 5, ready(5))
}

// P18.3: a block literal: what the block is, and where one goes on.
func TestBlockLiteral(t *testing.T) {
	w := begin(t)
	for _, c := range []struct{ params, slots int }{{0, 0}, {0, 3}, {1, 1}, {2, 5}, {8, 32}} {
		p, _ := w.within(slices.Concat([]int{api.OpInt, 1, api.OpBlock, c.params, c.slots, 3, api.OpInt, 7, api.OpBlockReturn}, stop())...)
		w.wantStop(p, 2, num(1))
		w.wantNext(p, "block")
		w.wantGo(p, 1, ready(1))
		top := w.top(p)
		x := w.info(top)
		if x.Pc != 9 || x.Top != 2 {
			t.Fatalf("the pc is %d, the top %d", x.Pc, x.Top)
		}
		b, e := context.Block(w.k, int(w.stack(top)[1]/4))
		want := api.BlockInfo{Outer: obj(top), Method: x.Method, Receiver: x.Receiver, Start: 6, Params: c.params, Temps: c.slots}
		if b != want || e != api.OK {
			t.Fatalf("the block is %+v, %d, want %+v", b, e, want)
		}
	}
}

// P18.2: a block literal that fails leaves the stack as it is, and the pc behind its operands.
func TestBlockLiteralFails(t *testing.T) {
	w := begin(t)
	p, _ := w.within(slices.Concat([]int{api.OpInt, 1, api.OpBlock, 0, 0, 3, api.OpInt, 7, api.OpBlockReturn}, stop())...)
	w.k.Space().Heap().Mark(1)
	w.wantGo(p, 9, failed(1, api.ErrMarked))
	wantSlots(t, "the stack", w.stack(w.top(p)), num(1))
	if x := w.info(w.top(p)); x.Pc != 6 {
		t.Fatalf("the pc is %d", x.Pc)
	}
}

// P18.2: a block literal for which there is no cell makes nothing.
func TestBlockLiteralWithoutCell(t *testing.T) {
	w := begin(t)
	p, _ := w.within(slices.Concat([]int{api.OpNil, api.OpNil, api.OpNil, api.OpNil}, stop())...)
	h := w.k.Space().Heap()
	h.Mark(3)
	had := len(h.All())
	w.wantGo(p, 9, failed(1, api.ErrContext))
	if x := w.info(w.top(p)); x.Pc != 8 || x.Top != 4 || h.Marked() != 3 || len(h.All()) != had {
		t.Fatalf("the context is %+v, the mark %d", x, h.Marked())
	}
}

// P18.2: instructions that are no events need no fuel, however many there are.
func TestNoFuel(t *testing.T) {
	w := begin(t)
	p := w.spawn(strings.Repeat("G := 3. true ifTrue: [G := nil]. ", 100) + "^false or: [true and: [G]]")
	w.wantNext(p, "")
	w.wantGo(p, 0, ended(0, null))
	// The longest that there may be: each context of a chain goes on by as much as a code has.
	long := strings.Repeat("G:=0.", 800)
	w.method("Object", "down: n n = 0 ifFalse: [self down: n - 1]. "+long)
	p = w.spawn("nil down: 200. " + long)
	w.wantGo(p, 601, ready(601))
	w.wantGo(p, 0, ready(0))
	w.wantNext(p, "send =")
	w.wantGo(p, 1, ended(1, null))
}
