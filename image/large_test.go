package image_test

import (
	"fmt"
	"strings"
	"testing"

	"kiln/api"
	"kiln/image"
)

// great is the rich world with all the room that there may be.
func great(t *testing.T) *world {
	t.Helper()
	return load(t, replaced(t, rich(t).save(), "room 6000 800", "room 1048576 65536"))
}

// has tells whether there is room for so many words and objects more, without a collection.
func (w *world) has(words, oops int) bool {
	n, m := w.k.Space().Heap().Room()
	return n >= words && m >= oops
}

// there says that a world is sound, and what is loaded of it is told as it is.
func (w *world) there(what string) {
	w.t.Helper()
	text := w.save()
	if !image.Sound(w.k) {
		w.t.Fatalf("%s: not sound", what)
	}
	if load(w.t, text).save() != text {
		w.t.Fatalf("%s: another text", what)
	}
}

// P23.1, P23.5: as many objects as may be, one behind the other in a ring.
func TestManyObjects(t *testing.T) {
	w := great(t)
	first := w.array(null)
	x := first
	w.hold(x)
	for w.has(3, 1) {
		x = w.array(x)
		w.hold(x)
	}
	w.put(int(first)/4, 0, x)
	w.there("a ring")
	if text := w.save(); !strings.Contains(text, "\nobjects 65536\n") {
		t.Fatal("there are not as many as may be")
	}
}

// P23.1, P23.5: as many words as may be, in objects as long as may be.
func TestManyWords(t *testing.T) {
	w := great(t)
	var list []api.Word
	for w.has(2+api.MaxSlots+200, 2) {
		x, e := w.k.Space().Alloc(obj(api.Array), api.MaxSlots, api.FormatWords)
		if e != api.OK {
			t.Fatalf("Alloc = %d", e)
		}
		list = append(list, x)
	}
	w.hold(w.array(list...))
	if len(list) < 120 {
		t.Fatalf("there are %d of them", len(list))
	}
	w.there("long ones")
}

// P23.1: many contexts, as far from their homes as may be.
func TestManyContexts(t *testing.T) {
	w := great(t)
	slots := w.words(w.number(w.value("J"), api.BlockOuter))
	home := slots[api.ContextOuter]
	x, n := home, 0
	for ; w.has(100, 3); n++ {
		if n%255 == 0 {
			x = home
		}
		slots[api.ContextOuter] = x
		x = w.laid(api.Context, api.FormatWords, slots...)
		b := w.laid(api.Block, api.FormatWords, x, slots[api.ContextMethod], slots[api.ContextReceiver], num(0), num(0), num(0))
		w.hold(w.array(b, obj(w.value("G"))))
	}
	if n < 20000 {
		t.Fatalf("there are %d of them", n)
	}
	w.there("contexts")
}

// P23.1: many methods of one long source, which is compiled for each of them.
func TestManyMethods(t *testing.T) {
	w := great(t)
	for i := range 100 {
		w.acts(global(fmt.Sprint("Global", i)), defines(fmt.Sprint("Class", i), "Object", ""))
	}
	w.acts(spawns("\""+strings.Repeat("x", 4000)+"\" J := [3]"), runs(11, 9))
	block := w.words(w.value("J"))
	c := w.words(int(block[api.BlockOuter]) / 4)
	m := w.words(int(c[api.ContextMethod]) / 4)
	code := w.words(int(m[api.MethodCode]) / 4)
	var blocks []api.Word
	for len(blocks) < 6000 {
		m[api.MethodCode] = w.array(code...)
		c[api.ContextMethod] = w.laid(api.Method, api.FormatWords, m...)
		block[api.BlockOuter] = w.laid(api.Context, api.FormatWords, c...)
		block[api.BlockMethod] = c[api.ContextMethod]
		blocks = append(blocks, w.laid(api.Block, api.FormatWords, block...))
	}
	w.hold(w.array(blocks...))
	w.there("methods")
}

// P23.5: all the processes that there may be.
func TestManyProcesses(t *testing.T) {
	w := booted(t, 400000, 20000)
	w.acts(global("G"), lays("Integer", "down ^(self - 1) down"))
	for i := range api.MaxProcesses {
		w.acts(spawns([]string{"^3", "G := [:a | a]. ^G value: 4", "^4 down", "^3 foo"}[i%4]), runs(i+1, i%7))
	}
	w.there("processes")
	v := load(t, w.save())
	for i := range api.MaxProcesses {
		if got, want := v.do(runs(i+1, 3)), w.do(runs(i+1, 3)); got != want {
			t.Fatalf("process %d: %q, want %q", i+1, got, want)
		}
	}
	w.same(v, "all processes")
}
