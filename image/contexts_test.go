package image_test

import (
	"slices"
	"testing"

	"kiln/api"
	"kiln/context"
	"kiln/image"
)

// last is the last of a list.
func last(list []int) int { return list[len(list)-1] }

// Rule 9: a context in a chain, one that only a block names, and a stale one.
func TestRuleContexts(t *testing.T) {
	waits := func(w *world) int { return w.chain(8)[3] }
	alone := func(w *world) int { return w.number(w.value("H"), api.BlockOuter) }
	stale := func(w *world) int { return w.number(w.value("J"), api.BlockOuter) }
	home := func(w *world) int { return w.number(stale(w), api.ContextOuter) }
	staleTop := func(w *world) int { return w.chain(2)[0] }
	begins := func(w *world) int { return w.chain(6)[0] }
	list := slices.Concat(
		puts("a dead context", "9: depth", alone, api.ContextDepth, num(0), num(257), num(1<<30-1)),
		puts("a dead context", "", alone, api.ContextDepth, num(1), num(200), num(256)),
		puts("a dead context", "", alone, api.ContextPc, num(0), num(1), num(5), num(4097), num(1<<30-1)),
		puts("a dead context", "9: method", alone, api.ContextMethod, num(3), null, sym(3), obj(api.Integer), empty),
		puts("a dead context", "9: start", alone, api.ContextStart, num(1), num(4)),
		puts("a dead context", "9: no context", alone, api.ContextOuter, num(3), sym(3), obj(api.Integer), empty),
		puts("a dead context", "9: sender", alone, api.ContextSender, num(3), sym(3), obj(api.Integer), empty, obj(api.True)),
		puts("a dead context", "", alone, api.ContextSlots, num(3), null, sym(3), obj(api.Integer), empty),
		puts("a stale context", "", stale, api.ContextStart, num(0), num(1), num(1<<30-1)),
		puts("a stale home", "9: start", home, api.ContextStart, num(1), num(4)),
		puts("a stale context", "", staleTop, api.ContextPc, num(0), num(1), num(4097), num(1<<30-1)),
		puts("a stale context", "9: start", staleTop, api.ContextStart, num(1)),
		puts("a stale context", "6:", staleTop, api.ContextSender, num(1), sym(1), obj(api.Integer), empty),
		puts("a waiting context", "9: outer", waits, api.ContextReceiver, num(3)),
		puts("one that begins", "9: method", begins, api.ContextMethod, num(3), null, sym(3), obj(api.Integer), empty, obj(api.Root)),
		puts("one that begins", "9:", begins, api.ContextReceiver, num(3), sym(3), obj(api.True), obj(api.UndefinedObject)),
	)
	for _, slot := range []int{api.ContextPc, api.ContextDepth, api.ContextTop, api.ContextTemps, api.ContextStart} {
		list = append(list, puts("a dead context", "9: no context", alone, slot, num(-1), num(-1<<30), null, sym(3), empty)...)
		list = append(list, puts("a waiting context", "6: no context", waits, slot, num(-1), num(-1<<30), null, sym(3), empty)...)
		list = append(list, puts("a stale context", "9: no context", stale, slot, num(-1), null)...)
	}
	for _, which := range []func(w *world) int{alone, stale} {
		list = append(list,
			change{"a context of bytes", "9: no context", func(w *world) { w.reform(which(w), api.Context, api.FormatBytes, make([]api.Word, 20)...) }},
			change{"a context with eight slots", "9: no context", func(w *world) { w.reform(which(w), api.Context, api.FormatWords, w.words(which(w))[:8]...) }},
			change{"too few slots for temporaries and cells", "9: no context", func(w *world) {
				w.put(which(w), api.ContextTop, num(len(w.words(which(w)))-9-int(w.at(which(w), api.ContextTemps)-1)/2+1))
			}},
			change{"too many temporaries", "9: no context", func(w *world) { w.put(which(w), api.ContextTemps, num(100)) }},
			change{"a cell that holds nothing", "9: a cell", func(w *world) { w.put(which(w), len(w.words(which(w)))-1, num(3)) }},
			change{"a dead context with a sender", "9: sender", func(w *world) { w.put(which(w), api.ContextSender, obj(w.chain(1)[0])) }},
			change{"another method", "9:", func(w *world) { w.put(which(w), api.ContextMethod, obj(w.method("P", "sum"))) }},
			change{"itself for its outer", "9:", func(w *world) { w.put(which(w), api.ContextOuter, obj(which(w))) }},
			change{"itself for its sender", "9: sender", func(w *world) { w.put(which(w), api.ContextSender, obj(which(w))) }},
		)
	}
	rule := map[bool]string{true: "9: cells", false: ""}
	for i, which := range []func(w *world) int{alone, stale} {
		list = append(list,
			change{"a cell more", rule[i == 0], func(w *world) { w.longer(which(w), null) }},
			change{"a cell less", rule[i == 0], func(w *world) { w.shorter(which(w)) }},
			change{"300 cells more", rule[i == 0], func(w *world) { w.longer(which(w), slices.Repeat([]api.Word{null}, 300)...) }},
			change{"a temporary more", rule[i == 0], func(w *world) {
				w.put(which(w), api.ContextTemps, w.at(which(w), api.ContextTemps)+2)
				w.longer(which(w), null)
			}},
			change{"a temporary less", rule[i == 0], func(w *world) {
				n := w.at(which(w), api.ContextTemps)
				w.put(which(w), api.ContextTemps, n-2)
				w.put(which(w), api.ContextSlots+int(n-1)/2-1, null)
			}},
		)
	}
	list = append(list,
		change{"a method for a block", "9: body", func(w *world) {
			// The block's context of the process 4 says that it runs the method.
			c := w.chain(4)[0]
			w.put(c, api.ContextStart, num(0))
		}},
		change{"another place of a block", "9: body", func(w *world) { w.put(w.chain(4)[0], api.ContextStart, num(5)) }},
		change{"a block that stands in another one", "9: body", func(w *world) {
			// In the process 7 the inner block is said to stand in the method itself.
			w.put(w.chain(7)[0], api.ContextOuter, obj(w.chain(7)[2]))
		}},
		change{"an outer with another receiver", "9: outer", func(w *world) { w.put(w.chain(8)[0], api.ContextReceiver, obj(w.value("G"))) }},
		change{"a stale outer with another receiver", "9: outer", func(w *world) { w.put(stale(w), api.ContextReceiver, null) }},
		change{"another receiver of a stale block and all its outers", "", func(w *world) {
			for _, c := range []int{stale(w), home(w)} {
				w.put(c, api.ContextReceiver, num(77))
			}
			w.put(w.value("J"), api.BlockReceiver, num(77))
		}},
		change{"a receiver of a class below", "", func(w *world) {
			// The process 1 waits in loop:, and its receiver becomes one of a class below Q.
			w.acts(defines("QQ", "Q", ""))
			w.k.Space().Heap().SetClass(w.value("G"), obj(w.class("QQ")))
		}},
		change{"a receiver of a class above", "9: receiver", func(w *world) {
			x := w.laid(w.class("P"), api.FormatWords, num(1), num(1))
			w.put(w.chain(1)[0], api.ContextReceiver, x)
		}},
		change{"a receiver that is no nil", "9: receiver", func(w *world) { w.put(last(w.chain(1)), api.ContextReceiver, num(1)) }},
		change{"a stale receiver", "", func(w *world) { w.put(staleTop(w), api.ContextReceiver, num(1)) }},
		change{"a ring of outers", "9: home", func(w *world) { w.put(home(w), api.ContextOuter, obj(stale(w))) }},
	)
	judgeAll(t, list)
}

// Rule 9: outers, as many as may be.
func TestRuleOuters(t *testing.T) {
	text := replaced(t, rich(t).save(), "room 6000 800", "room 60000 8000")
	for _, n := range []int{100, 256, 257, 600} {
		w := load(t, text)
		c := w.number(w.value("J"), api.BlockOuter)
		slots := w.words(c)
		for range n - 2 {
			slots[api.ContextOuter] = w.laid(api.Context, api.FormatWords, slots...)
		}
		w.put(c, api.ContextOuter, slots[api.ContextOuter])
		if list, e := context.Home(w.k, c); (e == api.OK) != (n <= 256) {
			t.Fatalf("%d: Home = %d, %d", n, list, e)
		}
		if image.Sound(w.k) != (n <= 256) {
			t.Fatalf("%d outers: Sound = %v", n, image.Sound(w.k))
		}
		if n <= 256 {
			keeps(t, "outers", pictured(w.save()))
		} else {
			breaks(t, "outers", "9: home", pictured(w.save()))
		}
	}
}

// Rule 10: the block that H holds, and the stale one that J does.
func TestRuleBlocks(t *testing.T) {
	block := func(w *world) int { return w.value("H") }
	stale := func(w *world) int { return w.value("J") }
	list := slices.Concat(
		puts("a block", "10: instruction", block, api.BlockStart, num(0), num(3), num(5), num(1<<30-1)),
		puts("a block", "10: instruction", block, api.BlockParams, num(0), num(2)),
		puts("a block", "10: instruction", block, api.BlockTemps, num(0), num(2)),
		puts("a stale block", "", stale, api.BlockStart, num(0), num(3), num(1<<30-1)),
		puts("a stale block", "", stale, api.BlockParams, num(0), num(2), num(1<<30-1)),
		puts("a stale block", "", stale, api.BlockTemps, num(0), num(2)),
	)
	for _, which := range []func(w *world) int{block, stale} {
		list = append(list, slices.Concat(
			puts("a block", "10: no context", which, api.BlockOuter, num(3), null, sym(3), obj(api.Integer), empty),
			puts("a block", "10: method", which, api.BlockMethod, num(3), null, sym(3), obj(api.Integer)),
			puts("a block", "10: method", which, api.BlockReceiver, num(3), null, sym(3), obj(api.Integer)),
			puts("a block", "10: number", which, api.BlockStart, num(-1), null, sym(3)),
			puts("a block", "10: number", which, api.BlockParams, num(-1), null, sym(3)),
			puts("a block", "10: number", which, api.BlockTemps, num(-1), null, sym(3)),
		)...)
		list = append(list,
			change{"a block with a slot more", "10: class", func(w *world) { w.longer(which(w), null) }},
			change{"a block with a slot less", "10: class", func(w *world) { w.shorter(which(w)) }},
			change{"a block of bytes", "10: class", func(w *world) { w.reform(which(w), api.Block, api.FormatBytes, 1, 2, 3, 4, 5, 6) }},
			change{"another method", "10: method", func(w *world) { w.put(which(w), api.BlockMethod, obj(w.method("P", "sum"))) }},
			change{"another outer", "10: method", func(w *world) { w.put(which(w), api.BlockOuter, obj(last(w.chain(7)))) }},
			change{"itself for its receiver", "10: method", func(w *world) { w.put(which(w), api.BlockReceiver, obj(which(w))) }},
		)
	}
	list = append(list,
		change{"a block that stands in another one", "10: instruction", func(w *world) {
			// The outer block of the process 7 is said to be the inner one.
			inner, outer := w.chain(7)[0], w.chain(7)[1]
			start := w.at(inner, api.ContextStart)
			w.hold(w.laid(api.Block, api.FormatWords, obj(last(w.chain(7))), w.at(outer, api.ContextMethod), null, start, num(0), num(0)))
		}},
		change{"that block, where it stands", "", func(w *world) {
			inner, outer := w.chain(7)[0], w.chain(7)[1]
			start := w.at(inner, api.ContextStart)
			w.hold(w.laid(api.Block, api.FormatWords, obj(outer), w.at(outer, api.ContextMethod), null, start, num(0), num(0)))
		}},
		change{"the method itself as a block", "10: instruction", func(w *world) {
			top := w.chain(6)[0]
			w.hold(w.laid(api.Block, api.FormatWords, obj(top), w.at(top, api.ContextMethod), null, num(0), num(0), num(0)))
		}},
	)
	judgeAll(t, list)
}

// A block that is never come to is one of its body all the same.
func TestRuleDeadBlock(t *testing.T) {
	w := booted(t, 2000, 200)
	w.acts(global("G"), spawns("G := [3]. true ifTrue: [^4] ifFalse: [^5]. [:a | a foo]"), runs(1, 1))
	b := w.value("G")
	c := w.number(b, api.BlockOuter)
	code := w.words(w.number(w.number(c, api.ContextMethod), api.MethodCode))
	dead := -1
	for i := range code {
		if code[i] == num(api.OpBlock) && code[i+1] == num(1) {
			dead = i
		}
	}
	if dead < 0 {
		t.Fatalf("no block in %d", code)
	}
	w.put(b, api.BlockStart, num(dead+4))
	w.put(b, api.BlockParams, num(1))
	w.put(b, api.BlockTemps, num(1))
	if !image.Sound(w.k) {
		t.Fatal("a block that is never come to is not sound")
	}
	keeps(t, "a block that is never come to", pictured(w.save()))
	// But no process goes on where nobody comes to.
	w.acts(spawns("^nil isNil"))
	w.put(w.process(2), 0, w.laid(api.Context, api.FormatWords,
		null, w.at(c, api.ContextMethod), num(dead+4), null, obj(c), num(1), num(0), num(1), num(dead+4), num(7), null))
	if n := len(w.words(c)); n != 10 {
		t.Fatalf("the outer has %d slots", n)
	}
	breaks(t, "a process in a block that is never come to", "11: pc", pictured(w.save()))
}

// Rule 11: a process that waits in blocks and methods.
func TestRuleChains(t *testing.T) {
	top := func(w *world) int { return w.chain(8)[0] }
	waits := func(w *world) int { return w.chain(8)[1] }
	bottom := func(w *world) int { return last(w.chain(8)) }
	begins := func(w *world) int { return w.chain(6)[0] }
	list := slices.Concat(
		puts("the top", "11: depth", top, api.ContextDepth, num(8), num(10), num(1), num(256)),
		puts("a waiting one", "11: depth", waits, api.ContextDepth, num(7), num(9), num(1)),
		puts("the last one", "11:", bottom, api.ContextDepth, num(2), num(256)),
		puts("the top", "11: pc", top, api.ContextPc, num(0), num(5), num(8), num(10), num(1000), num(1<<30-1)),
		puts("a waiting one", "11: pc", waits, api.ContextPc, num(0), num(5), num(8), num(36), num(40), num(1000)),
		puts("one that begins", "11: pc", begins, api.ContextPc, num(1), num(2), num(1000)),
		puts("one that begins", "11: pc", begins, api.ContextTop, num(1)),
		puts("a waiting one", "11: pc", waits, api.ContextTop, num(1)),
		puts("a waiting one", "", waits, api.ContextSlots, num(1), null),
		puts("the top", "9: a cell", top, api.ContextTop, num(1), num(0)),
		puts("the last one", "6: no context", bottom, api.ContextSender, num(1), empty),
		puts("a waiting one", "", waits, api.ContextPc, num(39)),
	)
	list = append(list,
		change{"a chain without its middle", "9: sender", func(w *world) { w.put(w.chain(8)[2], api.ContextSender, obj(w.chain(8)[5])) }},
		change{"a chain that is cut", "11: the last", func(w *world) {
			list := w.chain(8)
			for _, c := range list[2:] {
				w.put(c, api.ContextSender, null)
			}
		}},
		change{"a chain that is cut, with other depths", "", func(w *world) {
			list := w.chain(8)
			w.put(list[2], api.ContextSender, null)
			for i, c := range list[:3] {
				w.put(c, api.ContextDepth, num(3-i))
			}
			for _, c := range list[3:] {
				w.put(c, api.ContextSender, null)
			}
		}},
		change{"a chain that is a ring", "6: chain", func(w *world) { w.put(bottom(w), api.ContextSender, obj(top(w))) }},
		change{"a top less", "11: pc", func(w *world) {
			w.put(top(w), api.ContextTop, num(1))
			w.put(top(w), api.ContextSlots+2, null)
		}},
		change{"a top more", "11: pc", func(w *world) { w.put(top(w), api.ContextTop, num(3)) }},
		change{"the instruction ahead, with its top", "", func(w *world) {
			// Ahead of the 0 of b > 0 one cell is there.
			w.put(top(w), api.ContextPc, num(7))
			w.put(top(w), api.ContextTop, num(1))
			w.put(top(w), api.ContextSlots+2, null)
		}},
		change{"stale ones", "", func(w *world) {
			c := w.chain(2)[0]
			w.put(c, api.ContextPc, num(4000))
			w.put(c, api.ContextTop, num(1))
		}},
		change{"a stale one's depth", "11: depth", func(w *world) { w.put(w.chain(2)[0], api.ContextDepth, num(3)) }},
	)
	judgeAll(t, list)
}

// Rule 11: chains, as long as may be.
func TestRuleLongChain(t *testing.T) {
	w := booted(t, 20000, 2000)
	w.acts(defines("P", "Object", ""), lays("P", "down: n n isNil ifTrue: [^1]. ^self down: n - 1"), spawns("P new down: 999"))
	for n := range 257 {
		for len(w.chain(1)) < n {
			w.acts(runs(1, 1))
		}
		if text := w.save(); n > 250 && (!image.Sound(w.k) || load(t, text).save() != text) {
			t.Fatalf("a chain of %d is not loaded as it was", n)
		}
	}
	c := w.chain(1)[0]
	slots := w.words(c)
	slots[api.ContextSender] = obj(c)
	w.put(c, api.ContextTop, num(0))
	w.put(w.process(1), 0, w.laid(api.Context, api.FormatWords, slots...))
	if image.Sound(w.k) {
		t.Fatal("a chain of 257 is sound")
	}
	breaks(t, "a chain of 257", "6: chain", pictured(w.save()))
}
