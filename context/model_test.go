package context_test

import (
	"maps"
	"math/rand"
	"slices"
	"testing"

	"kiln/api"
	"kiln/class"
	"kiln/context"
)

// model is contexts and blocks told over from the chapter's words, without a
// heap: what is live is looked for, and what it takes is counted.
type model struct {
	words, oops, mark int // what is left beside contexts and blocks, and the mark
	contexts          map[int]*modelContext
	blocks            map[int]api.BlockInfo
	kept              []int
}

type modelContext struct {
	x     api.ContextInfo // but for Top, and for how many Temps there are
	temps []api.Word
	cells []api.Word // those that hold something
}

func (m *model) names(oop int) []api.Word {
	if c := m.contexts[oop]; c != nil {
		return slices.Concat([]api.Word{c.x.Sender, c.x.Method, c.x.Receiver, c.x.Outer}, c.temps, c.cells)
	}
	if b, there := m.blocks[oop]; there {
		return []api.Word{b.Outer, b.Method, b.Receiver}
	}
	return nil
}

func (m *model) length(oop int) int {
	if c := m.contexts[oop]; c != nil {
		return 11 + len(c.temps) + c.x.Stack
	}
	return 8
}

// live is the contexts and blocks that what is kept leads to.
func (m *model) live() []int {
	var list []int
	work := slices.Clone(m.kept)
	for len(work) > 0 {
		oop := work[0]
		work = work[1:]
		_, isBlock := m.blocks[oop]
		if slices.Contains(list, oop) || m.contexts[oop] == nil && !isBlock {
			continue
		}
		list = append(list, oop)
		for _, w := range m.names(oop) {
			if w > 0 && w%4 == 0 {
				work = append(work, int(w/4))
			}
		}
	}
	return list
}

// forget takes out what is not live.
func (m *model) forget() {
	live := m.live()
	for oop := range m.contexts {
		if !slices.Contains(live, oop) {
			delete(m.contexts, oop)
		}
	}
	for oop := range m.blocks {
		if !slices.Contains(live, oop) {
			delete(m.blocks, oop)
		}
	}
}

func (m *model) room() (int, int) {
	words, oops := m.words, m.oops
	for _, oop := range m.live() {
		words, oops = words-m.length(oop), oops-1
	}
	return words, oops
}

func (m *model) alloc(length int) api.Errno {
	words, oops := m.room()
	switch {
	case words < length || oops == 0:
		return api.ErrFull
	case m.mark == 1:
		m.mark = 0
		return api.ErrMarked
	}
	m.mark = max(0, m.mark-1)
	return api.OK
}

// context is the one that a word names.
func (m *model) context(w api.Word) *modelContext {
	if w > 0 && w%4 == 0 {
		return m.contexts[int(w/4)]
	}
	return nil
}

func isWord(w api.Word) bool {
	switch {
	case w%2 != 0:
		return w > -1<<31 && w < 1<<31
	case w%4 == 0:
		return w > 0 && w <= 4*65536
	}
	return w > 0 && w < 4*4096
}

func (m *model) create(x api.ContextInfo, args []api.Word) (*modelContext, api.Errno) {
	if x.Pc < 0 || x.Pc > 4096 || x.Temps < len(args) || x.Temps > 32 || x.Stack < 0 || x.Stack > 256 {
		return nil, api.ErrArg
	}
	for _, w := range append(slices.Clone(args), x.Sender, x.Method, x.Receiver, x.Outer) {
		if !isWord(w) {
			return nil, api.ErrWord
		}
	}
	sender, outer := m.context(x.Sender), m.context(x.Outer)
	if sender == nil && x.Sender != none || outer == nil && x.Outer != none {
		return nil, api.ErrContext
	}
	c := &modelContext{x: x, temps: slices.Clone(args)}
	c.x.Depth, c.x.Top, c.x.Start = 1, 0, x.Pc
	if sender != nil {
		c.x.Depth = sender.x.Depth + 1
	}
	if c.x.Depth > 256 {
		return nil, api.ErrDeepRun
	}
	for len(c.temps) < x.Temps {
		c.temps = append(c.temps, none)
	}
	if e := m.alloc(11 + x.Temps + x.Stack); e != api.OK {
		return nil, e
	}
	return c, api.OK
}

func (m *model) info(c *modelContext) api.ContextInfo {
	x := c.x
	x.Top, x.Temps = len(c.cells), len(c.temps)
	return x
}

func outerOf(c *modelContext) api.Word  { return c.x.Outer }
func senderOf(c *modelContext) api.Word { return c.x.Sender }

// way is all that one comes to, up to nil.
func (m *model) way(oop int, next func(c *modelContext) api.Word) ([]int, api.Errno) {
	list := []int{oop}
	for {
		w := next(m.contexts[list[len(list)-1]])
		if w == none {
			return list, api.OK
		}
		if m.context(w) == nil || len(list) == 256 {
			return nil, api.ErrContext
		}
		list = append(list, int(w/4))
	}
}

func (m *model) temp(oop, outward, i int) (*api.Word, api.Errno) {
	c := m.contexts[oop]
	if outward < 0 || outward > 256 {
		return nil, api.ErrArg
	}
	for range outward {
		if c = m.context(c.x.Outer); c == nil {
			return nil, api.ErrContext
		}
	}
	if i < 0 || i >= len(c.temps) {
		return nil, api.ErrSlot
	}
	return &c.temps[i], api.OK
}

// twin is a kernel and a model that are told the same.
type twin struct {
	t    *testing.T
	r    *rand.Rand
	k    *class.Kernel
	m    *model
	came map[api.Errno]int // how often each answer came
}

func newTwin(t *testing.T, r *rand.Rand, came map[api.Errno]int) *twin {
	t.Helper()
	k := booted(t, 250+r.Intn(300), 25+r.Intn(25))
	m := &model{contexts: map[int]*modelContext{}, blocks: map[int]api.BlockInfo{}}
	m.words, m.oops = k.Space().Room()
	return &twin{t, r, k, m, came}
}

// one is an oop of a map, the same in every run; 0, if there is none.
func one[T any](r *rand.Rand, from map[int]T) int {
	if len(from) == 0 {
		return 0
	}
	return slices.Sorted(maps.Keys(from))[r.Intn(len(from))]
}

// some is an oop of a context, if there is one.
func (w *twin) some() int { return one(w.r, w.m.contexts) }

// word is mostly one, and often that of a context or a block. It names nothing
// that is not there: that might come to be litter.
func (w *twin) word() api.Word {
	switch w.r.Intn(8) {
	case 0:
		return api.Word(w.r.Intn(84+30) - 30)
	case 1:
		return none
	case 2:
		return named(one(w.r, w.m.blocks))
	case 3, 4:
		return named(w.some())
	}
	return api.Word(2*w.r.Intn(100) - 49)
}

// link is a word for a sender or an outer, which mostly may stand there.
func (w *twin) link() api.Word {
	if w.r.Intn(20) == 0 {
		return w.word()
	}
	if w.r.Intn(3) == 0 {
		return none
	}
	return named(w.some())
}

// near is a number from 0 to n, now and then beside that.
func (w *twin) near(n int) int {
	if w.r.Intn(25) == 0 {
		return []int{-1, n + 1, n, 0}[w.r.Intn(4)]
	}
	return w.r.Intn(min(n, 6) + 1)
}

func (w *twin) keep(oop int) {
	w.k.Space().Keep(named(oop))
	w.m.kept = append(w.m.kept, oop)
}

func (w *twin) create() {
	w.t.Helper()
	x := api.ContextInfo{
		Sender: w.link(), Method: w.word(), Receiver: w.word(), Outer: w.link(),
		Pc: w.near(4096), Temps: w.near(32), Stack: w.near(256),
		Depth: w.r.Intn(9), Top: w.r.Intn(9), Start: w.r.Intn(9),
	}
	var args []api.Word
	for range w.r.Intn(max(1, x.Temps+1) + w.r.Intn(2)) {
		args = append(args, w.word())
	}
	c, want := w.m.create(x, args)
	oop, e := context.New(w.k, x, args)
	if e != want || (oop == 0) != (c == nil) {
		w.t.Fatalf("New(%v, %d) = %d, %d, want %d", x, args, oop, e, want)
	}
	w.came[e]++
	if c != nil {
		w.m.contexts[oop] = c
		w.keep(oop)
	}
}

func (w *twin) block(oop int) {
	w.t.Helper()
	c := w.m.contexts[oop]
	x := api.BlockInfo{
		Outer: named(oop), Method: c.x.Method, Receiver: c.x.Receiver,
		Start: w.near(4096), Params: w.near(8), Temps: w.near(32),
	}
	want := api.ErrArg
	if x.Start >= 0 && x.Start <= 4096 && x.Params >= 0 && x.Params <= 8 && x.Temps >= x.Params && x.Temps <= 32 {
		want = w.m.alloc(8)
	}
	b, e := context.NewBlock(w.k, oop, x.Start, x.Params, x.Temps)
	if e != want || (b == 0) != (e != api.OK) {
		w.t.Fatalf("NewBlock(%v) = %d, %d, want %d", x, b, e, want)
	}
	w.came[e]++
	if e == api.OK {
		w.m.blocks[b] = x
		w.keep(b)
	}
}

func (w *twin) stack(oop int) {
	w.t.Helper()
	c := w.m.contexts[oop]
	if w.r.Intn(3) > 0 {
		x, want := w.word(), api.OK
		switch {
		case !isWord(x):
			want = api.ErrWord
		case len(c.cells) == c.x.Stack:
			want = api.ErrContext
		default:
			c.cells = append(c.cells, x)
		}
		wantErr(w.t, "Push", context.Push(w.k, oop, x), want)
		return
	}
	if len(c.cells) == 0 {
		wantPop(w.t, w.k, oop, 0, api.ErrContext)
		return
	}
	top := len(c.cells) - 1
	wantPop(w.t, w.k, oop, c.cells[top], api.OK)
	c.cells = c.cells[:top]
}

func (w *twin) temp(oop int) {
	w.t.Helper()
	outward, i, x := w.r.Intn(5), w.r.Intn(6)-1, w.word()
	if w.r.Intn(8) == 0 {
		outward = []int{-1, 255, 256, 257}[w.r.Intn(4)]
	}
	at, e := w.m.temp(oop, outward, i)
	if e != api.OK {
		wantTemp(w.t, w.k, oop, outward, i, 0, e)
	} else {
		wantTemp(w.t, w.k, oop, outward, i, *at, api.OK)
	}
	if e == api.OK && !isWord(x) {
		e = api.ErrWord
	}
	wantErr(w.t, "SetTemp", context.SetTemp(w.k, oop, outward, i, x), e)
	w.came[e]++
	if e == api.OK {
		*at = x
	}
}

// change does to a context what calls do, and what they do not: rings, depths.
func (w *twin) change(oop int) {
	w.t.Helper()
	c, h := w.m.contexts[oop], w.k.Space().Heap()
	switch w.r.Intn(8) {
	case 0:
		if x := w.link(); isWord(x) {
			c.x.Sender = x
			h.Put(oop, api.ContextSender, x)
		}
	case 1:
		if x := w.link(); isWord(x) {
			c.x.Outer = x
			h.Put(oop, api.ContextOuter, x)
		}
	case 2:
		c.x.Depth = []int{0, 1, 254, 255, 256, 300}[w.r.Intn(6)]
		h.Put(oop, api.ContextDepth, api.Word(2*c.x.Depth+1))
	case 3:
		wantErr(w.t, "Cut", context.Cut(w.k, oop), api.OK)
		c.x.Sender = none
	default:
		pc := w.near(4096)
		if pc < 0 || pc > 4096 {
			wantErr(w.t, "Go", context.Go(w.k, oop, pc), api.ErrArg)
			return
		}
		wantErr(w.t, "Go", context.Go(w.k, oop, pc), api.OK)
		c.x.Pc = pc
	}
}

func (w *twin) memory() {
	switch w.r.Intn(5) {
	case 0:
		w.m.mark = w.r.Intn(6)
		w.k.Space().Heap().Mark(w.m.mark)
	case 1:
		w.k.Space().Collect()
	case 2:
		n := w.r.Intn(len(w.m.kept) + 1)
		w.k.Space().Drop(n)
		w.m.kept = w.m.kept[:len(w.m.kept)-n]
	default:
		// Litter, where there is room without a collection.
		if words, oops := w.k.Space().Heap().Room(); words > 2 && oops > 0 && w.m.mark == 0 {
			w.k.Space().Alloc(4*api.Array, w.r.Intn(words-2), 0)
		}
	}
}

// hold holds all that there is to be seen against the model.
func (w *twin) hold() {
	w.t.Helper()
	w.m.forget()
	for oop, c := range w.m.contexts {
		wantInfo(w.t, w.k, oop, w.m.info(c))
		for i, x := range c.temps {
			wantTemp(w.t, w.k, oop, 0, i, x, api.OK)
		}
		for i, x := range c.cells {
			wantPeek(w.t, w.k, oop, len(c.cells)-1-i, x, api.OK)
		}
		wantPeek(w.t, w.k, oop, len(c.cells), 0, api.ErrContext)
		for i := 9 + len(c.temps) + len(c.cells); i < 9+len(c.temps)+c.x.Stack; i++ {
			if at(w.k, oop, i) != none {
				w.t.Fatalf("a cell that holds nothing is %d", at(w.k, oop, i))
			}
		}
		home, e := w.m.way(oop, outerOf)
		if e != api.OK {
			wantHome(w.t, w.k, oop, 0, e)
		} else {
			wantHome(w.t, w.k, oop, home[len(home)-1], api.OK)
		}
		chain, e := w.m.way(oop, senderOf)
		wantChain(w.t, w.k, oop, e, chain...)
	}
	for oop, b := range w.m.blocks {
		wantBlock(w.t, w.k, oop, b, api.OK)
	}
	words, oops := w.m.room()
	if a, b := w.k.Space().Room(); a != words || b != oops || w.k.Space().Heap().Marked() != w.m.mark {
		w.t.Fatalf("Room = %d, %d, want %d, %d; the mark is %d, want %d", a, b, words, oops, w.k.Space().Heap().Marked(), w.m.mark)
	}
	if len(w.k.Space().Kept()) != len(w.m.kept) {
		w.t.Fatalf("%d are kept, want %d", w.k.Space().Kept(), w.m.kept)
	}
}

// All that the chapter says, whatever comes behind whatever.
func TestAsTheModel(t *testing.T) {
	r := rand.New(rand.NewSource(16))
	came := map[api.Errno]int{}
	for range 300 {
		w := newTwin(t, r, came)
		for range 100 {
			oop, what := w.some(), r.Intn(12)
			switch {
			case oop == 0 || what < 2:
				w.create()
			case what == 2:
				w.block(oop)
			case what < 6:
				w.stack(oop)
			case what < 9:
				w.temp(oop)
			case what == 9:
				w.change(oop)
			default:
				w.memory()
			}
			w.hold()
		}
	}
	for _, e := range []api.Errno{
		api.OK, api.ErrArg, api.ErrWord, api.ErrSlot, api.ErrFull, api.ErrMarked, api.ErrContext, api.ErrDeepRun,
	} {
		if came[e] < 10 {
			t.Fatalf("the answer %d came %d times", e, came[e])
		}
	}
}

// P16.10: by calls alone, a chain of which none is cut is as long as its first context's depth.
func TestChainsAreAsDeep(t *testing.T) {
	r := rand.New(rand.NewSource(10))
	for range 30 {
		k := booted(t, 20000, 1500)
		list, cut := []int{0}, map[int]int{}
		for range 700 {
			// Mostly on from one of the last, so that chains grow long.
			sender := list[max(0, len(list)-1-r.Intn(3))]
			c, e := context.New(k, below(sender, 0, 0, 0), nil)
			if e == api.ErrDeepRun {
				list = list[:1+r.Intn(len(list))]
				continue
			}
			wantErr(t, "New", e, api.OK)
			k.Space().Keep(named(c))
			list = append(list, c)
			if r.Intn(100) == 0 {
				x, _ := context.Info(k, c)
				wantErr(t, "Cut", context.Cut(k, c), api.OK)
				cut[c] = x.Depth - 1
			}
			chain, e := context.Chain(k, c)
			x, _ := context.Info(k, c)
			// What was cut off is what the last one counts beside itself.
			lost := cut[chain[len(chain)-1]]
			if e != api.OK || len(chain) > 256 || len(chain) != x.Depth-lost {
				t.Fatalf("the chain %d of the depth %d, %d", chain, x.Depth, e)
			}
		}
	}
}
