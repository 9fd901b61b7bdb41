package image_test

import (
	"fmt"
	"math/rand"
	"slices"
	"strings"
	"testing"

	"kiln/api"
	"kiln/class"
	"kiln/image"
)

// drawn is a kernel's picture, told over from its heap's state: who is met in
// which round is asked of all that were met ahead.
func (w *world) drawn() *picture {
	state := w.k.Space().Heap().State()
	there := map[int]api.HeapObject{}
	for _, o := range state.Objects {
		there[o.Oop] = o
	}
	var order []int
	for oop := 1; oop <= api.Root; oop++ {
		order = append(order, oop)
	}
	for i := 0; i < len(order); i++ {
		o := there[order[i]]
		words := []api.Word{o.Class}
		if o.Format == api.FormatWords {
			words = append(words, o.Slots...)
		}
		for _, x := range words {
			if x%4 == 0 && !slices.Contains(order, int(x)/4) {
				order = append(order, int(x)/4)
			}
		}
	}
	word := func(x api.Word) int {
		if x%4 != 0 {
			return int(x)
		}
		return 4 * (1 + slices.Index(order, int(x)/4))
	}
	p := &picture{room: []int{state.Words, state.Oops, state.Mark}, symbols: w.k.Symbols().All()}
	for _, oop := range order {
		o := there[oop]
		x := thing{format: "w", class: word(o.Class)}
		for _, s := range o.Slots {
			if o.Format == api.FormatBytes {
				x.format = "b"
				x.bytes += string([]byte{byte(s)})
			} else {
				x.slots = append(x.slots, word(s))
			}
		}
		if o.Format == api.FormatBytes {
			x.format = "b"
		}
		p.objects = append(p.objects, x)
	}
	return p
}

// P23.2: the text, held against a telling over, whatever was done ahead.
func TestSaves(t *testing.T) {
	w := rich(t)
	if got, want := w.save(), w.drawn().text(); got != want {
		t.Fatalf("Save = %q, want %q", got, want)
	}
	for seed := range int64(12) {
		r := choosing(1000 + seed)
		w := peopled(t, 6000, 900)
		for range 100 {
			w.do(r.act(w))
		}
		if got, want := w.save(), w.drawn().text(); got != want {
			t.Fatalf("seed %d: Save = %q, want %q", seed, got, want)
		}
	}
}

// P23.2: the walk: of each object its class, then its slots, in order.
func TestWalk(t *testing.T) {
	w := booted(t, 2000, 200)
	w.acts(global("G"), defines("P", "Object", "x y"))
	// Made in another order than that in which they are met.
	last, second := w.str("last"), w.array(num(3))
	class, _ := w.k.Find("P")
	inner := w.laid(class, api.FormatWords, last, second)
	outer := w.array(second, inner, null, last, second)
	w.k.SetValue(0, outer)
	lines := strings.Split(w.save(), "\n")
	n := slices.Index(lines, "objects 27")
	if n < 0 {
		t.Fatalf("objects: %q", lines)
	}
	// 20 the Array of classes, 21 that of globals, 22 the class P, 23 the outer
	// Array, 24 the own names, 25 the second one, 26 the instance, 27 the last.
	want := []string{"w 44 16 20 24 28 32 36 40 44 48 52 56 60 64 68 88", "w 44 58 92", "w 48 62 16 96 72 72 1 31", "w 44 100 104 4 108 100", "w 44 66 70", "w 44 7", "w 88 108 100", "b 40 6c617374", "end", ""}
	if got := lines[n+20:]; !slices.Equal(got, want) {
		t.Fatalf("the objects from 20 on are %q, want %q", got, want)
	}
}

// P23.2: symbols and strings of all bytes, strings of all short lengths.
func TestBytes(t *testing.T) {
	w := booted(t, 2000, 200)
	w.acts(global("G"))
	var every strings.Builder
	for b := range 256 {
		every.WriteByte(byte(b))
		w.k.Symbols().Add(string([]byte{byte(b)}))
	}
	for _, text := range []string{"", "a", "\n", "ab", "abc", "abcd", "abcde", every.String()} {
		w.k.SetValue(0, w.str(text))
		s := w.save()
		line := "\nb 40"
		if text != "" {
			line += fmt.Sprintf(" %x", text)
		}
		if !strings.Contains(s, line+"\nend\n") {
			t.Fatalf("of %q there is no line %q in %q", text, line, s)
		}
		for b := range 256 {
			if !strings.Contains(s, fmt.Sprintf("\n%02x\n", b)) {
				t.Fatalf("the symbol %q is not told", []byte{byte(b)})
			}
		}
		if v := load(t, s); v.save() != s || v.k.Symbols().Count() != 270 {
			t.Fatalf("%q is not loaded", text)
		}
	}
}

// P23.2: what is collected, and what is not changed.
func TestSaveCollects(t *testing.T) {
	w, v := rich(t), rich(t)
	v.k.Space().Collect()
	w.save()
	if w.seen() != v.seen() {
		t.Fatal("Save is not a collection alone")
	}
	// What the space keeps stays, and is not told.
	w.acts(marks(0))
	text := w.save()
	x := w.array(num(1))
	w.k.Space().Keep(x, null)
	was := w.seen()
	if w.save() != text || w.seen() != was {
		t.Fatal("what is kept is told, or gone")
	}
	w.k.Space().Drop(2)
	if w.save() != text || w.seen() == was {
		t.Fatal("what was kept is still there")
	}
	if _, e := w.k.Space().Heap().Class(int(x) / 4); e == api.OK {
		t.Fatal("what was kept is still there")
	}
	w.k.Space().Begin()
	w.array(num(1))
	was = w.seen()
	if w.save() != text || w.seen() != was {
		t.Fatal("Save has changed something in a bracket")
	}
	if e := w.k.Space().Abort(); e != api.OK {
		t.Fatalf("Abort = %d: the bracket is not open any more", e)
	}
}

// P23.2, P23.3: the room and the mark.
func TestRoomAndMark(t *testing.T) {
	for _, x := range [][3]int{{160, 20, 0}, {161, 20, 1}, {160, 21, 5}, {api.MaxWords, api.MaxOops, api.MaxMark}, {1 << 19, 300, 1 << 29}} {
		w := booted(t, x[0], x[1])
		w.acts(marks(x[2]))
		text := w.save()
		if !strings.HasPrefix(text, fmt.Sprintf("kiln image 1\nroom %d %d %d\n", x[0], x[1], x[2])) {
			t.Fatalf("of %d it begins with %q", x, text[:60])
		}
		v := load(t, text)
		s := v.k.Space().Heap().State()
		if s.Words != x[0] || s.Oops != x[1] || s.Mark != x[2] || v.save() != text {
			t.Fatalf("of %d there is %d %d %d", x, s.Words, s.Oops, s.Mark)
		}
	}
	// What stands ahead of the mark goes on behind loading.
	w := booted(t, 1000, 100)
	w.acts(marks(3))
	v := load(t, w.save())
	for _, a := range []api.Act{global("A"), global("B"), global("C"), global("C")} {
		if got, want := v.do(a), w.do(a); got != want || (a.Name == "C") != (want != "") && v.k.Space().Heap().Marked() != 0 {
			t.Fatalf("%+v: %q, want %q", a, got, want)
		}
	}
}

// P23.5: the text does not hang on oops, nor on when a collection was.
func TestTextUnseen(t *testing.T) {
	first, second := rich(t), rich(t)
	r := rand.New(rand.NewSource(5))
	first.acts(marks(0))
	second.acts(marks(0))
	h := second.k.Space().Heap()
	for range 300 {
		second.array(num(1), num(2))
	}
	// Each pair of objects changes oops, for all who name them.
	list := h.All()
	for range 200 {
		a, b := list[r.Intn(len(list))], list[r.Intn(len(list))]
		if a > api.Root && b > api.Root && a != b {
			second.rename(a, b)
		}
	}
	if first.save() != second.save() {
		t.Fatal("oops or garbage are seen")
	}
}

// rename lets two objects change oops, but nobody see it.
func (w *world) rename(a, b int) {
	h := w.k.Space().Heap()
	turned := func(x api.Word) api.Word {
		switch x {
		case obj(a):
			return obj(b)
		case obj(b):
			return obj(a)
		}
		return x
	}
	h.Exchange(a, b)
	for _, oop := range h.All() {
		c, _ := h.Class(oop)
		h.SetClass(oop, turned(c))
		n, format, _ := h.Size(oop)
		for i := 0; i < n && format == api.FormatWords; i++ {
			x, _ := h.At(oop, i)
			h.Put(oop, i, turned(x))
		}
	}
}

// P23.1, P23.2: kernels that are none, and such as no call made so.
func TestSaveOfUnsound(t *testing.T) {
	for _, spoil := range []func(w *world){
		func(w *world) { w.k.Space().Crown(api.Nil) },
		func(w *world) { w.k.Space().Crown(api.Classes) },
		func(w *world) { w.k.Space().Heap().Free(api.Root) },
		func(w *world) { w.k.Space().Heap().Free(api.Nil) },
		func(w *world) { w.k.Space().Heap().Free(api.Classes) },
		func(w *world) { w.k.Space().Heap().Keep(nil) },
		func(w *world) { w.k.Space().Heap().SetClass(api.Root, num(3)) },
		func(w *world) { w.put(api.Root, 0, sym(4095)) },
		func(w *world) { w.k.Symbols().Back(3) },
	} {
		w := rich(t)
		spoil(w)
		if image.Sound(w.k) {
			t.Fatal("it is sound")
		}
		text, _ := image.Save(w.k)
		refuses(t, "an unsound kernel", text)
		if image.Sound(w.k) {
			t.Fatal("it is sound behind Save")
		}
	}
	w := booted(t, 1000, 100)
	k, _ := class.Over(w.k.Space(), w.k.Symbols())
	if a, _ := image.Save(k); a != w.save() || !image.Sound(k) {
		t.Fatal("a second kernel over the same space is another one")
	}
}
