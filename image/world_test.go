package image_test

import (
	"fmt"
	"strconv"
	"strings"
	"testing"

	"kiln/api"
	"kiln/class"
	"kiln/dict"
	"kiln/image"
	"kiln/inspect"
	"kiln/method"
	"kiln/proc"
	"kiln/reshape"
	"kiln/step"
)

const (
	null  = api.Word(4 * api.Nil)
	empty = api.Word(4 * api.Empty)
)

func num(n int) api.Word { return api.Word(2*n + 1) }

func sym(n int) api.Word { return api.Word(4*n + 2) }

func obj(oop int) api.Word { return api.Word(4 * oop) }

// world is a kernel and its book.
type world struct {
	t *testing.T
	k *class.Kernel
	b *dict.Book
}

// over is the world of a kernel.
func over(t *testing.T, k *class.Kernel) *world {
	t.Helper()
	b, e := dict.New(k)
	if e != api.OK {
		t.Fatalf("New = %d", e)
	}
	return &world{t, k, b}
}

func booted(t *testing.T, words, oops int) *world {
	t.Helper()
	k, e := class.Boot(words, oops)
	if e != api.OK {
		t.Fatalf("Boot(%d, %d) = %d", words, oops, e)
	}
	return over(t, k)
}

// told is a refusal as a text; of none "".
func told(r api.Refusal) string {
	if r == (api.Refusal{}) {
		return ""
	}
	return fmt.Sprintf("refused %+v", r)
}

// do does an act as chapter 25 says, and answers what came of it.
func (w *world) do(a api.Act) string {
	switch a.Kind {
	case api.ActClass:
		_, e := w.k.Define(a.Name, a.Other, a.Names)
		return told(api.Refusal{Code: e})
	case api.ActMethod:
		return told(w.lay(a.Name, a.Text))
	case api.ActRemove:
		return told(w.remove(a.Name, a.Other))
	case api.ActGlobal:
		return told(api.Refusal{Code: w.k.Global(a.Name)})
	case api.ActSpawn:
		n, f := proc.Spawn(w.k, a.Text)
		return fmt.Sprint(n, f)
	case api.ActRun:
		return w.run(a.Number, a.Fuel)
	case api.ActReshape:
		return told(reshape.Do(w.k, w.b, a.Name, a.Names))
	case api.ActCollect:
		_, _, e := w.k.Space().Collect()
		return told(api.Refusal{Code: e})
	case api.ActMark:
		return told(api.Refusal{Code: w.k.Space().Heap().Mark(a.Number)})
	}
	text, e := inspect.Text(w.k)
	return fmt.Sprint(text, e)
}

// lay lays a method into a class. A refused one gives back what M4 asks for.
func (w *world) lay(name, source string) api.Refusal {
	c, e := w.k.Find(name)
	if e != api.OK {
		return api.Refusal{Code: e}
	}
	switch c {
	case api.Class, api.Method, api.Context, api.Process, api.Message:
		return api.Refusal{Code: api.ErrKernel}
	}
	h := w.k.Space().Heap()
	symbols, mark := w.k.Symbols().Count(), h.Marked()
	m, f := method.Compile(w.k, c, source)
	if f.Code != api.OK {
		return api.Refusal{Code: f.Code, At: f.At}
	}
	w.k.Space().Keep(obj(m))
	defer w.k.Space().Drop(1)
	info, _ := method.Info(w.k, m)
	if e = w.b.Put(c, info.Selector, m); e != api.OK {
		w.k.Symbols().Back(symbols)
		if h.Marked() != 0 {
			h.Mark(mark)
		}
	}
	return api.Refusal{Code: e}
}

func (w *world) remove(name, selector string) api.Refusal {
	c, e := w.k.Find(name)
	if e != api.OK {
		return api.Refusal{Code: e}
	}
	mark := w.k.Space().Heap().Marked()
	if e = w.b.Remove(c, selector); e != api.OK && w.k.Space().Heap().Marked() != 0 {
		w.k.Space().Heap().Mark(mark)
	}
	return api.Refusal{Code: e}
}

func (w *world) run(process, fuel int) string {
	r, e := proc.Run(w.k, w.b, process, fuel)
	text := fmt.Sprint(e, r.State, r.Used, r.Code, r.Selector)
	if r.State == api.Ended {
		value, _ := inspect.Value(w.k, r.Value)
		text += " " + value
	}
	if o, e := proc.Object(w.k, process); e == api.OK {
		text += " " + step.Next(w.k, o)
	}
	return text
}

// acts does some acts that must be taken.
func (w *world) acts(list ...api.Act) {
	w.t.Helper()
	for _, a := range list {
		if s := w.do(a); strings.HasPrefix(s, "refused") {
			w.t.Fatalf("%+v: %s", a, s)
		}
	}
}

func defines(name, super, own string) api.Act {
	return api.Act{Kind: api.ActClass, Name: name, Other: super, Names: strings.Fields(own)}
}

func reshapes(name, own string) api.Act {
	return api.Act{Kind: api.ActReshape, Name: name, Names: strings.Fields(own)}
}

func global(name string) api.Act { return api.Act{Kind: api.ActGlobal, Name: name} }

func lays(name, source string) api.Act {
	return api.Act{Kind: api.ActMethod, Name: name, Text: source}
}

func removes(name, selector string) api.Act {
	return api.Act{Kind: api.ActRemove, Name: name, Other: selector}
}

func spawns(source string) api.Act { return api.Act{Kind: api.ActSpawn, Text: source} }

func runs(process, fuel int) api.Act {
	return api.Act{Kind: api.ActRun, Number: process, Fuel: fuel}
}

func marks(n int) api.Act { return api.Act{Kind: api.ActMark, Number: n} }

// put stores to a slot of an object.
func (w *world) put(oop, i int, x api.Word) {
	w.t.Helper()
	if e := w.k.Space().Heap().Put(oop, i, x); e != api.OK {
		w.t.Fatalf("Put(%d, %d, %d) = %d", oop, i, x, e)
	}
}

// at is what a slot holds.
func (w *world) at(oop, i int) api.Word {
	w.t.Helper()
	x, e := w.k.Space().Heap().At(oop, i)
	if e != api.OK {
		w.t.Fatalf("At(%d, %d) = %d", oop, i, e)
	}
	return x
}

// number is the oop of the object that a slot names.
func (w *world) number(oop, i int) int {
	w.t.Helper()
	return int(w.at(oop, i)) / 4
}

// laid is a new object. Nothing keeps it.
func (w *world) laid(class, format int, slots ...api.Word) api.Word {
	w.t.Helper()
	x, e := w.k.Space().Alloc(obj(class), len(slots), format)
	if e != api.OK {
		w.t.Fatalf("Alloc = %d", e)
	}
	for i, s := range slots {
		w.put(int(x)/4, i, s)
	}
	return x
}

func (w *world) array(slots ...api.Word) api.Word {
	w.t.Helper()
	return w.laid(api.Array, api.FormatWords, slots...)
}

func (w *world) str(text string) api.Word {
	w.t.Helper()
	slots := make([]api.Word, len(text))
	for i := range slots {
		slots[i] = api.Word(text[i])
	}
	return w.laid(api.String, api.FormatBytes, slots...)
}

// rich is a world in which there is something of everything: classes below one
// another, methods of the kernel's classes too, removed and stale ones, blocks
// and messages in globals, processes that wait in methods and blocks, that are
// stale, that are over, that have not begun.
func rich(t *testing.T) *world {
	t.Helper()
	w := booted(t, 6000, 800)
	w.acts(
		defines("P", "Object", "x y"), defines("Q", "P", "z"), defines("R", "Object", "u"), defines("E", "R", ""),
		global("G"), global("H"), global("I"), global("J"),
		lays("P", "x: a y: b | t | t := a. x := t. y := b. ^self"),
		lays("P", "sum ^x + y"),
		lays("P", "gone: a ^[:b | b > 0 ifTrue: [^a] ifFalse: [self gone: b]] value: a - 1"),
		lays("Q", "loop: n | i | i := 0. [i < n] whileTrue: [i := i + 1. z := i]. ^z"),
		lays("Q", "sum ^super sum + (z isNil ifTrue: [0] ifFalse: [z])"),
		lays("R", "wait [true] whileTrue: [u := 1]"),
		lays("R", "blocks ^[:a | | b | b := a. [:c | u := c + b]]"),
		lays("Integer", "both: b ^[:c | c + (b value: self)]"),
		lays("Object", "doesNotUnderstand: m I := m. ^m arguments"),
		lays("Object", "lits 'seven' size. ^#(1 'two' #three #(4 #(#five) nil true) #() 'six')"),
		lays("Block", "twice self value. ^self value"),
		spawns("G := Q new x: 3 y: 'ab'. ^G loop: 30"), runs(1, 12),
		spawns("^R new wait"), runs(2, 6),
		spawns("^3"), runs(3, 6),
		spawns("H := 5 both: [:a | a * 2]. ^H value: 1"), runs(4, 6),
		spawns("^3 foo: 4 bar: nil"), runs(5, 9),
		spawns("#(1 #b 'c' #(2 nil)) size. ^nil"),
		spawns("| n | n := 3. [n := n + 1. [n // 0] value] value"), runs(7, 5),
		spawns("1 to: 9 do: [:i | P new gone: i]"), runs(8, 20),
		spawns("G x: (Array new: 3) y: (String new: 5). ^[:k | ^k] value: (R new blocks value: 3)"), runs(9, 9),
		spawns("J := R new blocks value: 3"), runs(10, 9),
		removes("P", "gone:"),
		reshapes("R", "v u"),
		lays("R", "last ^v"),
		marks(1000000),
	)
	if !image.Sound(w.k) {
		t.Fatal("the rich world is not sound")
	}
	return w
}

// save is the image's text.
func (w *world) save() string {
	w.t.Helper()
	text, e := image.Save(w.k)
	if e != api.OK {
		w.t.Fatalf("Save = %d", e)
	}
	return text
}

// load is the world of an image that must be taken.
func load(t *testing.T, text string) *world {
	t.Helper()
	k, e := image.Load(text)
	if k == nil || e != api.OK {
		t.Fatalf("Load = %d of %q", e, cut(text))
	}
	return over(t, k)
}

// refuses says that a text is no image.
func refuses(t *testing.T, what, text string) {
	t.Helper()
	if k, e := image.Load(text); k != nil || e != api.ErrImage {
		t.Fatalf("%s: Load = %v, %d of %q", what, k != nil, e, cut(text))
	}
}

// cut is a text, not all too long.
func cut(text string) string {
	if len(text) > 4000 {
		return text[:4000]
	}
	return text
}

// seen is all that there is of a kernel.
func (w *world) seen() string {
	s := w.k.Space()
	return fmt.Sprint(s.Heap().State(), s.Kept(), s.Crowned(), w.k.Symbols().All())
}

// same says that two worlds are one, but for oops and garbage.
func (w *world) same(v *world, what string) {
	w.t.Helper()
	if a, b := w.save(), v.save(); a != b {
		w.t.Fatalf("%s: %q, want %q", what, cut(b), cut(a))
	}
}

// picture is an image's text taken apart.
type picture struct {
	room    []int
	symbols []string
	objects []thing
}

// thing is an object in an image.
type thing struct {
	format string
	class  int
	slots  []int // of words
	bytes  string
}

// pictured takes a text apart that Save wrote.
func pictured(text string) *picture {
	lines := strings.Split(text, "\n")
	p := &picture{room: ints(lines[1])}
	n := ints(lines[2])[0]
	for _, s := range lines[3 : 3+n] {
		p.symbols = append(p.symbols, unhex(s))
	}
	for _, s := range lines[4+n : len(lines)-2] {
		x := thing{format: s[:1]}
		words := strings.Split(s, " ")
		x.class, _ = strconv.Atoi(words[1])
		if x.format == "b" {
			x.bytes = unhex(strings.Join(words[2:], ""))
		} else {
			x.slots = ints(s)[1:]
		}
		p.objects = append(p.objects, x)
	}
	return p
}

// ints is the numbers behind a line's first word.
func ints(line string) []int {
	var list []int
	for _, s := range strings.Split(line, " ")[1:] {
		n, _ := strconv.Atoi(s)
		list = append(list, n)
	}
	return list
}

func unhex(digits string) string {
	var text []byte
	for i := 0; i < len(digits); i += 2 {
		n, _ := strconv.ParseUint(digits[i:i+2], 16, 8)
		text = append(text, byte(n))
	}
	return string(text)
}

// text puts a picture together.
func (p *picture) text() string {
	var b strings.Builder
	fmt.Fprintf(&b, "kiln image 1\nroom %d %d %d\nsymbols %d\n", p.room[0], p.room[1], p.room[2], len(p.symbols))
	for _, s := range p.symbols {
		fmt.Fprintf(&b, "%x\n", s)
	}
	fmt.Fprintf(&b, "objects %d\n", len(p.objects))
	for _, x := range p.objects {
		fmt.Fprintf(&b, "%s %d", x.format, x.class)
		for _, w := range x.slots {
			fmt.Fprintf(&b, " %d", w)
		}
		if x.bytes != "" {
			fmt.Fprintf(&b, " %x", x.bytes)
		}
		b.WriteByte('\n')
	}
	b.WriteString("end\n")
	return b.String()
}

// copied is a picture that may be changed.
func (p *picture) copied() *picture { return pictured(p.text()) }
