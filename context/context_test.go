package context_test

import (
	"fmt"
	"math"
	"slices"
	"testing"

	"kiln/api"
	"kiln/class"
	"kiln/context"
)

const none api.Word = 4

func booted(t *testing.T, words, oops int) *class.Kernel {
	t.Helper()
	k, e := class.Boot(words, oops)
	if e != api.OK {
		t.Fatalf("Boot(%d, %d) = %d", words, oops, e)
	}
	return k
}

// plain is a context without a sender and an outer; its method and receiver are integers.
func plain(temps, stack int) api.ContextInfo {
	return api.ContextInfo{Sender: none, Method: 7, Receiver: 9, Outer: none, Temps: temps, Stack: stack}
}

// below is one whose sender and outer are these contexts, or none.
func below(sender, outer, temps, stack int) api.ContextInfo {
	x := plain(temps, stack)
	x.Sender, x.Outer = named(sender), named(outer)
	return x
}

func named(oop int) api.Word {
	if oop == 0 {
		return none
	}
	return api.Word(4 * oop)
}

// made is a new context, which the space keeps from now on.
func made(t *testing.T, k *class.Kernel, x api.ContextInfo, args ...api.Word) int {
	t.Helper()
	c, e := context.New(k, x, args)
	if c == 0 || e != api.OK {
		t.Fatalf("New(%v, %d) = %d, %d", x, args, c, e)
	}
	k.Space().Keep(named(c))
	return c
}

// madeBlock is a new block, which the space keeps from now on.
func madeBlock(t *testing.T, k *class.Kernel, c, start, params, temps int) int {
	t.Helper()
	b, e := context.NewBlock(k, c, start, params, temps)
	if b == 0 || e != api.OK {
		t.Fatalf("NewBlock(%d, %d, %d, %d) = %d, %d", c, start, params, temps, b, e)
	}
	k.Space().Keep(named(b))
	return b
}

func put(t *testing.T, k *class.Kernel, oop, i int, w api.Word) {
	t.Helper()
	if e := k.Space().Heap().Put(oop, i, w); e != api.OK {
		t.Fatalf("Put(%d, %d, %d) = %d", oop, i, w, e)
	}
}

func at(k *class.Kernel, oop, i int) api.Word {
	w, _ := k.Space().Heap().At(oop, i)
	return w
}

// slots is all that an object holds.
func slots(k *class.Kernel, oop int) []api.Word {
	n, _, _ := k.Space().Heap().Size(oop)
	var list []api.Word
	for i := range n {
		list = append(list, at(k, oop, i))
	}
	return list
}

// seen is all that there is of a kernel: objects, places, symbols, what is kept, the mark.
func seen(k *class.Kernel) string {
	s := k.Space()
	return fmt.Sprint(s.Heap().State(), s.Kept(), s.Crowned(), k.Symbols().All())
}

func wantErr(t *testing.T, what string, got, want api.Errno) {
	t.Helper()
	if got != want {
		t.Fatalf("%s = %d, want %d", what, got, want)
	}
}

func wantNew(t *testing.T, k *class.Kernel, x api.ContextInfo, want api.Errno, args ...api.Word) {
	t.Helper()
	if c, e := context.New(k, x, args); c != 0 || e != want {
		t.Fatalf("New(%v, %d) = %d, %d, want 0, %d", x, args, c, e, want)
	}
}

func wantInfo(t *testing.T, k *class.Kernel, c int, want api.ContextInfo) {
	t.Helper()
	if x, e := context.Info(k, c); x != want || e != api.OK {
		t.Fatalf("Info(%d) = %v, %d, want %v", c, x, e, want)
	}
}

func wantNoInfo(t *testing.T, k *class.Kernel, c int) {
	t.Helper()
	if x, e := context.Info(k, c); x != (api.ContextInfo{}) || e != api.ErrContext {
		t.Fatalf("Info(%d) = %v, %d", c, x, e)
	}
}

func wantPop(t *testing.T, k *class.Kernel, c int, want api.Word, wantE api.Errno) {
	t.Helper()
	if w, e := context.Pop(k, c); w != want || e != wantE {
		t.Fatalf("Pop(%d) = %d, %d, want %d, %d", c, w, e, want, wantE)
	}
}

func wantPeek(t *testing.T, k *class.Kernel, c, back int, want api.Word, wantE api.Errno) {
	t.Helper()
	if w, e := context.Peek(k, c, back); w != want || e != wantE {
		t.Fatalf("Peek(%d, %d) = %d, %d, want %d, %d", c, back, w, e, want, wantE)
	}
}

func wantTemp(t *testing.T, k *class.Kernel, c, outward, i int, want api.Word, wantE api.Errno) {
	t.Helper()
	if w, e := context.Temp(k, c, outward, i); w != want || e != wantE {
		t.Fatalf("Temp(%d, %d, %d) = %d, %d, want %d, %d", c, outward, i, w, e, want, wantE)
	}
}

func wantHome(t *testing.T, k *class.Kernel, c, want int, wantE api.Errno) {
	t.Helper()
	if h, e := context.Home(k, c); h != want || e != wantE {
		t.Fatalf("Home(%d) = %d, %d, want %d, %d", c, h, e, want, wantE)
	}
}

func wantChain(t *testing.T, k *class.Kernel, c int, wantE api.Errno, want ...int) {
	t.Helper()
	if l, e := context.Chain(k, c); !slices.Equal(l, want) || e != wantE {
		t.Fatalf("Chain(%d) = %d, %d, want %d, %d", c, l, e, want, wantE)
	}
}

func wantNoBlock(t *testing.T, k *class.Kernel, c, start, params, temps int, want api.Errno) {
	t.Helper()
	if b, e := context.NewBlock(k, c, start, params, temps); b != 0 || e != want {
		t.Fatalf("NewBlock(%d, %d, %d, %d) = %d, %d, want 0, %d", c, start, params, temps, b, e, want)
	}
}

func wantBlock(t *testing.T, k *class.Kernel, b int, want api.BlockInfo, wantE api.Errno) {
	t.Helper()
	if x, e := context.Block(k, b); x != want || e != wantE {
		t.Fatalf("Block(%d) = %v, %d, want %v, %d", b, x, e, want, wantE)
	}
}

// The chapter's examples, in their order.
func TestExamples(t *testing.T) {
	k := booted(t, 2000, 100)
	if c := made(t, k, plain(2, 3), 5); c != 21 {
		t.Fatalf("the first context is %d", c)
	}
	if n, format, e := k.Space().Heap().Size(21); n != 14 || format != 0 || e != api.OK {
		t.Fatalf("it has %d slots of format %d, %d", n, format, e)
	}
	wantInfo(t, k, 21, api.ContextInfo{Sender: none, Method: 7, Receiver: 9, Outer: none, Depth: 1, Temps: 2, Stack: 3})
	wantTemp(t, k, 21, 0, 0, 5, api.OK)
	wantTemp(t, k, 21, 0, 1, none, api.OK)
	wantTemp(t, k, 21, 0, 2, 0, api.ErrSlot)
	wantTemp(t, k, 21, 1, 0, 0, api.ErrContext)
	wantErr(t, "Push", context.Push(k, 21, 3), api.OK)
	wantErr(t, "Push", context.Push(k, 21, 5), api.OK)
	wantPeek(t, k, 21, 0, 5, api.OK)
	wantPeek(t, k, 21, 1, 3, api.OK)
	wantPeek(t, k, 21, 2, 0, api.ErrContext)
	wantPop(t, k, 21, 5, api.OK)
	wantPop(t, k, 21, 3, api.OK)
	wantPop(t, k, 21, 0, api.ErrContext)
	for _, want := range []api.Errno{api.OK, api.OK, api.OK, api.ErrContext} {
		wantErr(t, "Push", context.Push(k, 21, 3), want)
	}
	if b := madeBlock(t, k, 21, 10, 1, 2); b != 22 {
		t.Fatalf("the block is %d", b)
	}
	wantBlock(t, k, 22, api.BlockInfo{Outer: 84, Method: 7, Receiver: 9, Start: 10, Params: 1, Temps: 2}, api.OK)
	x := below(21, 21, 2, 3)
	x.Pc = 10
	if c := made(t, k, x, 7); c != 23 {
		t.Fatalf("the second context is %d", c)
	}
	wantInfo(t, k, 23, api.ContextInfo{Sender: 84, Method: 7, Receiver: 9, Outer: 84, Pc: 10, Depth: 2, Temps: 2, Stack: 3, Start: 10})
	wantTemp(t, k, 23, 1, 0, 5, api.OK)
	wantErr(t, "SetTemp", context.SetTemp(k, 23, 1, 1, 11), api.OK)
	wantTemp(t, k, 21, 0, 1, 11, api.OK)
	wantHome(t, k, 23, 21, api.OK)
	wantChain(t, k, 23, api.OK, 23, 21)
	wantErr(t, "Cut", context.Cut(k, 23), api.OK)
	wantChain(t, k, 23, api.OK, 23)
	wantInfo(t, k, 23, api.ContextInfo{Sender: none, Method: 7, Receiver: 9, Outer: 84, Pc: 10, Depth: 2, Temps: 2, Stack: 3, Start: 10})
	wantNoInfo(t, k, 1)
	wantNoInfo(t, k, 22)
	wantBlock(t, k, 21, api.BlockInfo{}, api.ErrContext)
	wantErr(t, "Go", context.Go(k, 21, 4097), api.ErrArg)
}

// The examples of what New refuses.
func TestExamplesRefused(t *testing.T) {
	k := booted(t, 2000, 100)
	wantNew(t, k, plain(33, 3), api.ErrArg)
	wantNew(t, k, plain(2, 257), api.ErrArg)
	wantNew(t, k, plain(1, 3), api.ErrArg, 3, 5)
	x := plain(2, 3)
	x.Pc = -1
	wantNew(t, k, x, api.ErrArg)
	x = plain(2, 3)
	x.Method = 0
	wantNew(t, k, x, api.ErrWord)
	x = plain(2, 3)
	x.Sender = 4 * api.UndefinedObject
	wantNew(t, k, x, api.ErrContext)
}

// refusals is what each call answers of a context, asked so that nothing else
// could be wrong with it; and asked so that all else is wrong, too.
func refusals(k *class.Kernel, c int) []api.Errno {
	_, info := context.Info(k, c)
	_, pop := context.Pop(k, c)
	_, home := context.Home(k, c)
	_, chain := context.Chain(k, c)
	list := []api.Errno{info, pop, home, chain, context.Cut(k, c)}
	for _, bad := range []bool{false, true} {
		n, w := 0, api.Word(3)
		if bad {
			n, w = -1, 0
		}
		_, peek := context.Peek(k, c, n)
		_, temp := context.Temp(k, c, n, n)
		_, block := context.NewBlock(k, c, n, n, n)
		list = append(list, peek, temp, block)
		list = append(list, context.Go(k, c, n), context.Push(k, c, w), context.SetTemp(k, c, n, n, w))
	}
	return list
}

// P16.1: without a kernel, and with one that no call made, whatever else is wrong.
func TestNoKernel(t *testing.T) {
	known := booted(t, 400, 40)
	copied := *known
	for _, k := range []*class.Kernel{nil, new(class.Kernel), &copied} {
		for _, n := range []int{0, 1, 21, -1, math.MaxInt, math.MinInt} {
			for i, e := range refusals(k, n) {
				wantErr(t, fmt.Sprint("call ", i), e, api.ErrNil)
			}
			wantBlock(t, k, n, api.BlockInfo{}, api.ErrNil)
		}
		wantNew(t, k, plain(1, 1), api.ErrNil)
		wantNew(t, k, plain(99, -1), api.ErrNil, 0)
	}
}

// P16.1: what is no context's oop, ahead of all that else is wrong.
func TestNoContext(t *testing.T) {
	k := booted(t, 2000, 100)
	c := made(t, k, plain(1, 1))
	b := madeBlock(t, k, c, 0, 0, 0)
	was := seen(k)
	for _, n := range []int{0, -1, 1, 4, 15, 18, 19, b, 99, 100, 101, 65536, 65537, math.MaxInt, math.MinInt, 1 << 62, -21} {
		for i, e := range refusals(k, n) {
			wantErr(t, fmt.Sprint("call ", i, " of ", n), e, api.ErrContext)
		}
		wantNoInfo(t, k, n)
	}
	for _, n := range []int{0, -1, 1, 14, c, 99, math.MaxInt, math.MinInt} {
		wantBlock(t, k, n, api.BlockInfo{}, api.ErrContext)
	}
	if seen(k) != was {
		t.Fatal("what is refused has changed something")
	}
}

// P16.1: lists that are handed in stay, spare room too, and are not kept; nil
// and empty ones are the same.
func TestArgs(t *testing.T) {
	k := booted(t, 2000, 100)
	room := []api.Word{3, 5, 11, 13}
	c := made(t, k, plain(4, 2), room[:2]...)
	if _, e := context.New(k, plain(4, 2), room[:2]); e != api.OK {
		t.Fatalf("New = %d", e)
	}
	if !slices.Equal(room, []api.Word{3, 5, 11, 13}) {
		t.Fatalf("the list became %d", room)
	}
	room[0], room[1] = 17, 19
	for i, w := range []api.Word{3, 5, none, none} {
		wantTemp(t, k, c, 0, i, w, api.OK)
	}
	a, _ := context.New(k, plain(0, 0), nil)
	b, _ := context.New(k, plain(0, 0), []api.Word{})
	if !slices.Equal(slots(k, a), slots(k, b)) {
		t.Fatalf("%d, %d", slots(k, a), slots(k, b))
	}
}

// P16.1: a list in an answer is new memory, spare room too.
func TestChainIsNew(t *testing.T) {
	k := booted(t, 2000, 100)
	a := made(t, k, plain(1, 1))
	b := made(t, k, below(a, 0, 1, 1))
	c := made(t, k, below(b, 0, 1, 1))
	one, _ := context.Chain(k, c)
	two, _ := context.Chain(k, c)
	for i := range one[:cap(one)] {
		one[:cap(one)][i] = -1
	}
	if !slices.Equal(two, []int{c, b, a}) {
		t.Fatalf("Chain = %d", two)
	}
	wantChain(t, k, c, api.OK, c, b, a)
}

// P16.2, P16.3: what a new context is, slot by slot.
func TestNew(t *testing.T) {
	k := booted(t, 20000, 200)
	one := made(t, k, plain(0, 0))
	two := made(t, k, below(one, 0, 0, 0))
	for _, temps := range []int{0, 1, 2, 31, 32} {
		for _, stack := range []int{0, 1, 5, 255, 256} {
			for _, n := range []int{0, 1, temps} {
				x := api.ContextInfo{
					Sender: named(two), Method: 4 * 99, Receiver: 6, Outer: named(one), Temps: temps, Stack: stack, Pc: 4096,
					Depth: 77, Top: 3, Start: 5,
				}
				args := make([]api.Word, min(n, temps))
				for i := range args {
					args[i] = api.Word(2*i + 101)
				}
				c, e := context.New(k, x, args)
				wantErr(t, "New", e, api.OK)
				want := append([]api.Word{x.Sender, x.Method, 8193, x.Receiver, x.Outer, 7, 1, api.Word(2*temps + 1), 8193}, args...)
				for len(want) < 9+temps+stack {
					want = append(want, none)
				}
				if !slices.Equal(slots(k, c), want) {
					t.Fatalf("it has %d, want %d", slots(k, c), want)
				}
				of, _ := k.Space().Heap().Class(c)
				if _, format, _ := k.Space().Heap().Size(c); of != 60 || format != 0 {
					t.Fatalf("it is of the class %d and the format %d", of, format)
				}
				x.Depth, x.Top, x.Start = 3, 0, 4096
				wantInfo(t, k, c, x)
			}
		}
	}
}

// P16.2: the numbers, at their edges.
func TestNumbersOfNew(t *testing.T) {
	k := booted(t, 20000, 200)
	for _, c := range []struct {
		pc, temps, stack, args int
		want                   api.Errno
	}{
		{0, 0, 0, 0, api.OK}, {4096, 32, 256, 32, api.OK}, {0, 8, 0, 8, api.OK},
		{-1, 0, 0, 0, api.ErrArg}, {4097, 0, 0, 0, api.ErrArg}, {math.MinInt, 0, 0, 0, api.ErrArg}, {math.MaxInt, 0, 0, 0, api.ErrArg},
		{0, -1, 0, 0, api.ErrArg}, {0, 33, 0, 0, api.ErrArg}, {0, 33, 0, 33, api.ErrArg}, {0, 0, 0, 1, api.ErrArg}, {0, 31, 0, 32, api.ErrArg},
		{0, math.MinInt, 0, 0, api.ErrArg}, {0, math.MaxInt, 0, 0, api.ErrArg},
		{0, 0, -1, 0, api.ErrArg}, {0, 0, 257, 0, api.ErrArg}, {0, 0, math.MinInt, 0, api.ErrArg}, {0, 0, math.MaxInt, 0, api.ErrArg},
	} {
		x := plain(c.temps, c.stack)
		x.Pc = c.pc
		args := make([]api.Word, c.args)
		for i := range args {
			args[i] = 3
		}
		if _, e := context.New(k, x, args); e != c.want {
			t.Fatalf("New(%v, %d args) = %d, want %d", x, c.args, e, c.want)
		}
	}
	// What makes no difference may be anything.
	for _, n := range []int{-1, 1, math.MinInt, math.MaxInt} {
		x := plain(1, 1)
		x.Depth, x.Top, x.Start = n, n, n
		c := made(t, k, x)
		x.Depth, x.Top, x.Start = 1, 0, 0
		wantInfo(t, k, c, x)
	}
}

// P16.2: what is no word, in each place, ahead of what is no context.
func TestWordsOfNew(t *testing.T) {
	k := booted(t, 2000, 100)
	was := seen(k)
	for _, bad := range []api.Word{0, -2, -4, 16386, 262148, 1<<31 + 1, -1<<31 - 1, math.MaxInt, math.MinInt} {
		for place := range 7 {
			x := plain(3, 1)
			x.Sender, x.Outer = 3, 3
			args := []api.Word{3, 5, 7}
			if place < 4 {
				*[]*api.Word{&x.Sender, &x.Method, &x.Receiver, &x.Outer}[place] = bad
			} else {
				args[place-4] = bad
			}
			wantNew(t, k, x, api.ErrWord, args...)
			x.Pc = 4097
			wantNew(t, k, x, api.ErrArg, args...)
		}
	}
	if seen(k) != was {
		t.Fatal("what is refused has changed something")
	}
	// Objects that are not there are words all the same.
	x := plain(1, 1)
	x.Method, x.Receiver = 4*99, 262144
	c := made(t, k, x, 4*98)
	wantTemp(t, k, c, 0, 0, 4*98, api.OK)
}

// P16.2: senders and outers that are none.
func TestLinksOfNew(t *testing.T) {
	k := booted(t, 2000, 100)
	c := made(t, k, plain(1, 1))
	b := madeBlock(t, k, c, 0, 0, 0)
	deep := made(t, k, plain(1, 1))
	put(t, k, deep, api.ContextDepth, 2*256+1)
	was := seen(k)
	for _, bad := range []api.Word{3, 2, 8, 12, 60, 72, 76, named(b), 4 * 99, 262144, -1} {
		x := plain(1, 1)
		x.Sender = bad
		wantNew(t, k, x, api.ErrContext)
		x = plain(1, 1)
		x.Outer = bad
		wantNew(t, k, x, api.ErrContext)
		x.Sender = named(c)
		wantNew(t, k, x, api.ErrContext)
		// Too deep it would be, too.
		x.Sender = named(deep)
		wantNew(t, k, x, api.ErrContext)
		// And there would be no room.
		k.Space().Heap().Mark(1)
		wantNew(t, k, x, api.ErrContext)
		k.Space().Heap().Mark(0)
	}
	if seen(k) != was {
		t.Fatal("what is refused has changed something")
	}
}

// P16.2: depths up to the last one.
func TestDepths(t *testing.T) {
	k := booted(t, 6000, 400)
	c := 0
	for n := 1; n <= 256; n++ {
		c = made(t, k, below(c, 0, 0, 0))
		if x, _ := context.Info(k, c); x.Depth != n {
			t.Fatalf("the depth is %d, want %d", x.Depth, n)
		}
	}
	was := seen(k)
	wantNew(t, k, below(c, 0, 0, 0), api.ErrDeepRun)
	wantNew(t, k, below(c, c, 0, 0), api.ErrDeepRun)
	k.Space().Heap().Mark(1)
	wantNew(t, k, below(c, 0, 0, 0), api.ErrDeepRun)
	k.Space().Heap().Mark(0)
	if seen(k) != was {
		t.Fatal("what is refused has changed something")
	}
	// An outer's depth makes no difference; a sender's does, whatever its chain is.
	made(t, k, below(0, c, 0, 0))
	context.Cut(k, c)
	wantNew(t, k, below(c, 0, 0, 0), api.ErrDeepRun)
	for depth, want := range map[int]api.Errno{0: api.OK, 1: api.OK, 254: api.OK, 255: api.OK, 256: api.ErrDeepRun, 257: api.ErrDeepRun, 1<<30 - 1: api.ErrDeepRun} {
		put(t, k, c, api.ContextDepth, api.Word(2*depth+1))
		d, e := context.New(k, below(c, 0, 0, 0), nil)
		wantErr(t, "New", e, want)
		if x, _ := context.Info(k, d); e == api.OK && x.Depth != depth+1 {
			t.Fatalf("the depth is %d, want %d", x.Depth, depth+1)
		}
	}
}

// P16.4: the pc, at its edges; nothing else is changed.
func TestGo(t *testing.T) {
	k := booted(t, 2000, 100)
	x := plain(2, 2)
	x.Pc = 17
	c := made(t, k, x, 3)
	x.Start, x.Depth = 17, 1
	was := slots(k, c)
	for _, pc := range []int{0, 1, 17, 4095, 4096} {
		wantErr(t, "Go", context.Go(k, c, pc), api.OK)
		was[api.ContextPc] = api.Word(2*pc + 1)
		if !slices.Equal(slots(k, c), was) {
			t.Fatalf("it has %d, want %d", slots(k, c), was)
		}
		x.Pc = pc
		wantInfo(t, k, c, x)
	}
	for _, pc := range []int{-1, 4097, math.MaxInt, math.MinInt} {
		wantErr(t, "Go", context.Go(k, c, pc), api.ErrArg)
		wantInfo(t, k, c, x)
	}
}
