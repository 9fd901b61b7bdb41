package prim_test

import (
	"math/rand"
	"slices"
	"strconv"
	"strings"
	"testing"

	"kiln/api"
	"kiln/class"
	"kiln/prim"
	symbols "kiln/symbol"
)

// thing is an object of the model.
type thing struct {
	class, format int
	slots         []api.Word
	ours          bool // it was there from the beginning, and takes no room
}

func (o *thing) length() int {
	if o.format == api.FormatBytes {
		return 2 + (len(o.slots)+3)/4
	}
	return 2 + len(o.slots)
}

func (o *thing) text() string {
	var b []byte
	for _, w := range o.slots {
		b = append(b, byte(w))
	}
	return string(b)
}

func textThing(s string) *thing {
	o := &thing{class: api.String, format: api.FormatBytes}
	for i := range len(s) {
		o.slots = append(o.slots, api.Word(s[i]))
	}
	return o
}

// model is the primitives told over from the chapter's words, without a heap.
type model struct {
	objects           map[int]*thing // those that are live
	supers, fields    map[int]int
	symbols           []string
	most              int // as many symbols the table takes
	words, oops, mark int // the room beside what was there, and the mark
	kept              []api.Word
}

func (m *model) thing(w api.Word) *thing {
	if w > 0 && w%4 == 0 {
		return m.objects[int(w/4)]
	}
	return nil
}

func (m *model) isThere(w api.Word) bool {
	switch {
	case w%2 != 0:
		return w > -1<<31 && w < 1<<31
	case w%4 == 0:
		return m.thing(w) != nil
	}
	return w > 0 && w < 4*4096
}

func (m *model) classOf(w api.Word) int {
	switch {
	case w%2 != 0:
		return api.Integer
	case w%4 == 0:
		return m.thing(w).class
	}
	return api.Symbol
}

func (m *model) isOf(w api.Word, class int) bool {
	for c := m.classOf(w); c != 0; c = m.supers[c] {
		if c == class {
			return true
		}
	}
	return false
}

// size is how many slots an instance has.
func (m *model) size(w api.Word) int {
	if c := m.classOf(w); c == api.Object || c > api.Message {
		return len(m.thing(w).slots)
	}
	return 0
}

func (m *model) textOf(w api.Word) string {
	if w%4 == 0 {
		return m.thing(w).text()
	}
	if n := int(w / 4); n < len(m.symbols) {
		return m.symbols[n]
	}
	return ""
}

func (m *model) live() []int {
	var list []int
	work := slices.Clone(m.kept)
	for len(work) > 0 {
		w := work[0]
		work = work[1:]
		o := m.thing(w)
		if o == nil || o.ours || slices.Contains(list, int(w/4)) {
			continue
		}
		list = append(list, int(w/4))
		if o.format == api.FormatWords {
			work = append(work, o.slots...)
		}
	}
	return list
}

func (m *model) room() (int, int) {
	words, oops := m.words, m.oops
	for _, oop := range m.live() {
		words, oops = words-m.objects[oop].length(), oops-1
	}
	return words, oops
}

func (m *model) forget() {
	live := m.live()
	for oop, o := range m.objects {
		if !o.ours && !slices.Contains(live, oop) {
			delete(m.objects, oop)
		}
	}
}

// reply is what a primitive comes to: a word, or a new object.
type reply struct {
	w    api.Word
	made *thing
	e    api.Errno
}

func failed(e api.Errno) reply { return reply{e: e} }

func (m *model) alloc(o *thing) reply {
	words, oops := m.room()
	switch {
	case words < o.length() || oops == 0:
		return failed(api.ErrFull)
	case m.mark == 1:
		m.mark = 0
		return failed(api.ErrMarked)
	}
	m.mark = max(0, m.mark-1)
	return reply{made: o}
}

// do is what Do comes to.
func (m *model) do(of int, s string, r api.Word, args []api.Word) reply {
	if !slices.Contains(strings.Fields(table()[of]), s) || activates(of, s) || len(args) != takes(s) {
		return failed(api.ErrArg)
	}
	for _, w := range append([]api.Word{r}, args...) {
		if !m.isThere(w) {
			return failed(api.ErrArg)
		}
	}
	if !m.isOf(r, of) {
		return failed(api.ErrPrim)
	}
	x, y := num(0), num(0)
	if len(args) > 0 {
		x = args[0]
	}
	if len(args) > 1 {
		y = args[1]
	}
	switch of {
	case api.Object:
		return m.doObject(s, r, x, y)
	case api.TrueClass, api.FalseClass:
		return m.doBoolean(s, r, x)
	case api.Integer:
		return m.doInteger(s, r, x)
	case api.Symbol, api.String:
		return m.doText(of, s, r, x, y)
	case api.Array:
		return m.doArray(s, m.thing(r), x, y)
	}
	return m.doOwn(of, s, r, x)
}

func (m *model) doObject(s string, r, x, y api.Word) reply {
	switch s {
	case "==", "=":
		return reply{w: truth(r == x)}
	case "~~":
		return reply{w: truth(r != x)}
	case "class":
		return reply{w: obj(m.classOf(r))}
	case "isNil":
		return reply{w: truth(r == null)}
	case "notNil":
		return reply{w: truth(r != null)}
	case "isKindOf:":
		if m.classOf(x) != api.Class {
			return failed(api.ErrPrim)
		}
		return reply{w: truth(m.isOf(r, int(x/4)))}
	case "instVarSize":
		return reply{w: num(m.size(r))}
	case "instVarAt:", "instVarAt:put:":
		return m.slot(s == "instVarAt:put:", m.thing(r), m.size(r), x, y)
	case "copy":
		c, o := m.classOf(r), m.thing(r)
		if c == api.Object || c > api.Message || c == api.String || c == api.Array && r != empty {
			return m.alloc(&thing{class: o.class, format: o.format, slots: slices.Clone(o.slots)})
		}
	}
	return reply{w: r}
}

// slot reads or changes one of so many.
func (m *model) slot(put bool, o *thing, n int, x, y api.Word) reply {
	if x%2 == 0 {
		return failed(api.ErrPrim)
	}
	i := (int(x) - 1) / 2
	if i < 1 || i > n {
		return failed(api.ErrIndex)
	}
	if put && o.format == api.FormatBytes {
		o.slots[i-1] = (y - 1) / 2
	} else if put {
		o.slots[i-1] = y
	}
	if put {
		return reply{w: y}
	}
	if o.format == api.FormatBytes {
		return reply{w: num(int(o.slots[i-1]))}
	}
	return reply{w: o.slots[i-1]}
}

func (m *model) doBoolean(s string, r, x api.Word) reply {
	switch {
	case s == "not":
		return reply{w: truth(r == no)}
	case x != yes && x != no:
		return failed(api.ErrPrim)
	case s == "or:":
		return reply{w: truth(r == yes || x == yes)}
	}
	return reply{w: truth(r == yes && x == yes)}
}

func (m *model) doInteger(s string, r, x api.Word) reply {
	a := (int(r) - 1) / 2
	switch s {
	case "=":
		return reply{w: truth(r == x)}
	case "~=":
		return reply{w: truth(r != x)}
	case "negated":
		return reply{w: num(reckoned("-", 0, a))}
	case "abs":
		if a < 0 {
			a = reckoned("-", 0, a)
		}
		return reply{w: num(a)}
	case "even":
		return reply{w: truth(a%2 == 0)}
	case "odd":
		return reply{w: truth(a%2 != 0)}
	case "printString":
		return m.alloc(textThing(strconv.Itoa(a)))
	}
	if x%2 == 0 {
		return failed(api.ErrPrim)
	}
	b := (int(x) - 1) / 2
	switch s {
	case "<":
		return reply{w: truth(a < b)}
	case ">":
		return reply{w: truth(a > b)}
	case "<=":
		return reply{w: truth(a <= b)}
	case ">=":
		return reply{w: truth(a >= b)}
	case "//", `\\`:
		if b == 0 {
			return failed(api.ErrZero)
		}
	}
	return reply{w: num(reckoned(s, a, b))}
}

func (m *model) doText(of int, s string, r, x, y api.Word) reply {
	text := m.textOf(r)
	switch s {
	case "size":
		return reply{w: num(len(text))}
	case "isEmpty":
		return reply{w: truth(text == "")}
	case "asString":
		return m.alloc(textThing(text))
	case "at:put:":
		if x%2 == 0 || y%2 == 0 || y < num(0) || y > num(255) {
			return failed(api.ErrPrim)
		}
		return m.slot(true, m.thing(r), len(text), x, y)
	case "at:":
		return m.slot(false, m.thing(r), len(text), x, y)
	case "asSymbol":
		return m.symbol(text)
	case "=":
		return reply{w: truth(m.classOf(x) == api.String && m.textOf(x) == text)}
	}
	if m.classOf(x) != of {
		return failed(api.ErrPrim)
	}
	if s == "<" {
		return reply{w: truth(text < m.textOf(x))}
	}
	if len(text+m.textOf(x)) > 8192 {
		return failed(api.ErrPrim)
	}
	return m.alloc(textThing(text + m.textOf(x)))
}

func (m *model) symbol(text string) reply {
	if text == "" || len(text) > 96 {
		return failed(api.ErrPrim)
	}
	n := slices.Index(m.symbols, text)
	if n < 0 && len(m.symbols) == m.most {
		return failed(api.ErrSymbols)
	}
	if n < 0 {
		n = len(m.symbols)
		m.symbols = append(m.symbols, text)
	}
	return reply{w: api.Word(4*n + 2)}
}

func (m *model) doArray(s string, o *thing, x, y api.Word) reply {
	switch s {
	case "size":
		return reply{w: num(len(o.slots))}
	case "isEmpty":
		return reply{w: truth(len(o.slots) == 0)}
	}
	return m.slot(s == "at:put:", o, len(o.slots), x, y)
}

// doOwn is of classes, blocks and messages.
func (m *model) doOwn(of int, s string, r, x api.Word) reply {
	o, c := m.thing(r), int(r/4)
	if len(o.slots) != map[int]int{api.Class: 7, api.Block: 6, api.Message: 2}[of] || of == api.Block && o.slots[4]%2 == 0 {
		return failed(api.ErrPrim)
	}
	switch s {
	case "new":
		if c > api.Object && c <= api.Message {
			return failed(api.ErrPrim)
		}
		return m.alloc(&thing{class: c, slots: slices.Repeat([]api.Word{null}, m.fields[c])})
	case "new:":
		n := (int(x) - 1) / 2
		switch {
		case c != api.String && c != api.Array || x%2 == 0 || n < 0 || n > 8192:
			return failed(api.ErrPrim)
		case c == api.Array && n == 0:
			return reply{w: empty}
		case c == api.Array:
			return m.alloc(&thing{class: c, slots: slices.Repeat([]api.Word{null}, n)})
		}
		return m.alloc(&thing{class: c, format: api.FormatBytes, slots: make([]api.Word, n)})
	case "numArgs":
		return reply{w: o.slots[4]}
	case "superclass", "arguments":
		return reply{w: o.slots[1]}
	}
	return reply{w: o.slots[0]} // name, selector
}

// twin is a kernel and its model.
type twin struct {
	t    *testing.T
	r    *rand.Rand
	k    *class.Kernel
	m    *model
	came map[api.Errno]int
	done map[string]int // the lines of the table that were done
}

func newTwin(t *testing.T, r *rand.Rand, came map[api.Errno]int, done map[string]int) *twin {
	t.Helper()
	booted := booted(t, 400+r.Intn(150), 38+r.Intn(10))
	most := 20 + r.Intn(3) // of which the classes take 20
	table, _ := symbols.Load(booted.Symbols().All(), most)
	k, _ := class.Over(booted.Space(), table)
	a := defined(t, k, "A", "Object", "x", "y")
	b := defined(t, k, "B", "A", "z")
	c := defined(t, k, "C", "Object")
	k.Space().Collect()
	m := &model{objects: map[int]*thing{}, supers: map[int]int{a: api.Object, b: a, c: api.Object}, fields: map[int]int{a: 2, b: 3}, most: most}
	for i := api.Object + 1; i <= api.Message; i++ {
		m.supers[i] = api.Object
	}
	for _, o := range k.Space().Heap().State().Objects {
		// What holds the kernel together is not played with.
		if (o.Class != obj(api.Array) || o.Oop == api.Empty) && o.Oop != api.Root {
			m.objects[o.Oop] = &thing{class: int(o.Class / 4), format: o.Format, slots: o.Slots, ours: true}
		}
	}
	m.words, m.oops = k.Space().Room()
	m.symbols = k.Symbols().All()
	return &twin{t, r, k, m, came, done}
}

// lay makes an object that no primitive makes, or one that is not as the kernel makes it.
func (w *twin) lay() {
	o := &thing{class: []int{api.Block, api.Message, api.Method, api.Process, api.Class}[w.r.Intn(5)]}
	for range []int{1, 2, 2, 6, 6, 6, 7}[w.r.Intn(7)] {
		o.slots = append(o.slots, w.word())
	}
	if o.class == api.Class && len(o.slots) == 7 {
		return
	}
	x, e := w.k.Space().Alloc(obj(o.class), len(o.slots), 0)
	if got := w.m.alloc(o); got.e != e {
		w.t.Fatalf("Alloc = %d, want %d", e, got.e)
	} else if e == api.OK {
		for i, s := range o.slots {
			w.k.Space().Heap().Put(int(x/4), i, s)
		}
		w.keep(x, o)
	}
}

// keep is of a new object, which is mostly kept.
func (w *twin) keep(x api.Word, o *thing) {
	w.m.forget()
	if w.m.objects[int(x/4)] != nil {
		w.t.Fatalf("the new object %d was there", x/4)
	}
	w.m.objects[int(x/4)] = o
	if w.r.Intn(4) > 0 {
		w.k.Space().Keep(x)
		w.m.kept = append(w.m.kept, x)
	}
}

// object is one that is live, those that are new more often than those of the kernel.
func (w *twin) object() api.Word {
	var list []int
	for oop, o := range w.m.objects {
		list = append(list, oop)
		if !o.ours {
			list = append(list, oop, oop)
		}
	}
	slices.Sort(list)
	return obj(list[w.r.Intn(len(list))])
}

func (w *twin) word() api.Word {
	switch w.r.Intn(10) {
	case 0:
		return num(edges()[w.r.Intn(len(edges()))])
	case 1, 2, 3:
		return num(w.r.Intn(8))
	case 4:
		return num(90 + w.r.Intn(10))
	case 5:
		return api.Word(4*w.r.Intn(len(w.m.symbols)+2) + 2)
	case 6:
		return []api.Word{yes, no, null, empty}[w.r.Intn(4)]
	}
	return w.object()
}

// of is a word that is mostly of a class.
func (w *twin) of(class int) api.Word {
	for range 30 {
		if x := w.word(); w.m.isOf(x, class) {
			return x
		}
	}
	return w.word()
}

// receiver is one that a primitive may have.
func (w *twin) receiver(of int, selector string) api.Word {
	var list []api.Word
	for oop, o := range w.m.objects {
		switch {
		case strings.HasPrefix(selector, "instVar") && w.m.size(obj(oop)) > 0, of == api.Array && o.class == api.Array && len(o.slots) > 0:
			list = append(list, obj(oop))
		case selector == "new" && (oop == api.Object || w.m.fields[oop] > 0), selector == "new:" && (oop == api.String || oop == api.Array):
			list = append(list, obj(oop))
		}
	}
	slices.Sort(list)
	switch {
	case w.r.Intn(30) == 0:
		return w.argument(of, selector)
	case w.r.Intn(4) == 0 || len(list) == 0:
		return w.of(of)
	}
	return list[w.r.Intn(len(list))]
}

// argument is one that a primitive may take.
func (w *twin) argument(of int, selector string) api.Word {
	switch {
	case w.r.Intn(40) == 0:
		return []api.Word{0, -2, obj(400), 262144, 16386}[w.r.Intn(5)]
	case w.r.Intn(5) == 0:
		return w.word()
	case selector == "isKindOf:":
		return w.of(api.Class)
	case of == api.TrueClass || of == api.FalseClass:
		return truth(w.r.Intn(2) == 0)
	case (of == api.String || of == api.Symbol) && takes(selector) == 1 && selector != "at:":
		return w.of(of)
	}
	return w.of(api.Integer)
}

// ask asks for a primitive of both.
func (w *twin) ask() {
	var classes []int
	for of := range table() {
		classes = append(classes, of)
	}
	slices.Sort(classes)
	of := classes[w.r.Intn(len(classes))]
	list := prim.Selectors(of)
	s := list[w.r.Intn(len(list))]
	r, n := w.receiver(of, s), takes(s)
	if w.r.Intn(60) == 0 {
		n = w.r.Intn(10)
	}
	args := make([]api.Word, n)
	for i := range args {
		args[i] = w.argument(of, s)
	}
	got, e := prim.Do(w.k, of, s, r, args)
	want := w.m.do(of, s, r, args)
	w.came[e]++
	if e != want.e || want.made == nil && got != want.w {
		w.t.Fatalf("Do(%d, %q, %d, %d) = %d, %d, want %d, %d", of, s, r, args, got, e, want.w, want.e)
	}
	if e == api.OK {
		w.done[strconv.Itoa(of)+" "+s]++
	}
	if want.made != nil {
		w.keep(got, want.made)
	}
}

// memory keeps, lets go, collects or marks.
func (w *twin) memory() {
	s := w.k.Space()
	switch w.r.Intn(5) {
	case 0:
		s.Collect()
	case 1:
		w.m.mark = w.r.Intn(6)
		s.Heap().Mark(w.m.mark)
	case 2:
		x := w.object()
		s.Keep(x)
		w.m.kept = append(w.m.kept, x)
	default:
		n := min(len(w.m.kept), w.r.Intn(4))
		s.Drop(n)
		w.m.kept = w.m.kept[:len(w.m.kept)-n]
	}
}

// hold holds all that is live against the model.
func (w *twin) hold() {
	w.m.forget()
	for oop, o := range w.m.objects {
		wantObject(w.t, w.k, obj(oop), o.class, o.format, o.slots...)
	}
	words, oops := w.m.room()
	if a, b := w.k.Space().Room(); a != words || b != oops || w.k.Space().Heap().Marked() != w.m.mark {
		w.t.Fatalf("Room = %d, %d, want %d, %d; the mark is %d, want %d", a, b, words, oops, w.k.Space().Heap().Marked(), w.m.mark)
	}
	if !slices.Equal(w.k.Space().Kept(), w.m.kept) || !slices.Equal(w.k.Symbols().All(), w.m.symbols) {
		w.t.Fatalf("%d are kept, want %d; the symbols %q, want %q", w.k.Space().Kept(), w.m.kept, w.k.Symbols().All(), w.m.symbols)
	}
}

// All that the chapter says, whatever comes behind whatever.
func TestAsTheModel(t *testing.T) {
	r := rand.New(rand.NewSource(17))
	came, done := map[api.Errno]int{}, map[string]int{}
	for range 200 {
		w := newTwin(t, r, came, done)
		for range 400 {
			switch n := r.Intn(20); {
			case n == 0:
				w.lay()
			case n < 3:
				w.memory()
			default:
				w.ask()
			}
			w.hold()
		}
	}
	for _, e := range []api.Errno{
		api.OK, api.ErrArg, api.ErrZero, api.ErrFull, api.ErrMarked, api.ErrSymbols, api.ErrPrim, api.ErrIndex,
	} {
		if came[e] < 20 {
			t.Fatalf("the answer %d came %d times", e, came[e])
		}
	}
	for of, list := range table() {
		for _, s := range strings.Fields(list) {
			if n := done[strconv.Itoa(of)+" "+s]; n < 20 && !activates(of, s) {
				t.Fatalf("%q of %d was done %d times", s, of, n)
			}
		}
	}
}
