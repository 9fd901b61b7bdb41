package method_test

import (
	"fmt"
	"math/rand"
	"slices"
	"strings"
	"testing"

	"kiln/api"
	"kiln/class"
	"kiln/gen"
	"kiln/method"
	"kiln/parse"
	"kiln/scope"
	"kiln/symbol"
)

// model is what methods take in a memory, told over from the chapter's words,
// without a heap: what is live is counted, not laid.
type model struct {
	words, oops, mark int // the mark, and what is left beside the methods
	most              int // symbols
	symbols           []string
	names             api.Names
	fields            map[int][]string // by class
	layouts           map[int]int
	methods           []*modelMethod // those that are kept
}

// holding is the literals and the source of a method, which others made of it share.
type holding struct{ words, oops int }

type modelMethod struct {
	oop, class, layout int
	doit               bool
	source             string
	selector           string
	code               api.Code
	holding            *holding
}

func arrayWords(n int) (int, int) {
	if n == 0 {
		return 0, 0
	}
	return 2 + n, 1
}

// left is what is free beside the methods that are kept and these.
func (m *model) left(more ...*modelMethod) (int, int) {
	words, oops := m.words, m.oops
	methods, holdings := map[*modelMethod]int{}, map[*holding]int{}
	for _, x := range slices.Concat(m.methods, more) {
		methods[x]++
		holdings[x.holding]++
	}
	for x := range methods {
		words, oops = words-2-9-2-len(x.code.Words), oops-2
	}
	for x := range holdings {
		words, oops = words-x.words, oops-x.oops
	}
	return words, oops
}

// alloc is what some allocations come to, one behind the other, while these methods are live too.
func (m *model) alloc(lengths []int, more ...*modelMethod) api.Errno {
	words, oops := m.left(more...)
	for _, n := range lengths {
		words, oops = words-n, oops-1
		if words < 0 || oops < 0 {
			return api.ErrFull
		}
		if m.mark == 1 {
			m.mark = 0
			return api.ErrMarked
		}
		m.mark = max(0, m.mark-1)
	}
	return api.OK
}

// make is the code of a source, and the symbols as they are then.
func (m *model) make(source string, isDoit bool, fields []string) (api.Source, api.Code, []string, api.Fault) {
	read := parse.Method
	if isDoit {
		read = parse.Doit
	}
	s, f := read(source)
	if f.Code != api.OK {
		return s, api.Code{}, nil, f
	}
	names := m.names
	names.Fields = fields
	b, f := scope.Resolve(s, names)
	if f.Code != api.OK {
		return s, api.Code{}, nil, f
	}
	x, _ := symbol.Load(m.symbols, m.most)
	if !isDoit {
		if _, e := x.Add(s.Selector); e != api.OK {
			return s, api.Code{}, nil, fault(api.ErrSymbols, s.At)
		}
	}
	c, f := gen.Make(b, x)
	return s, c, x.All(), f
}

// lengths is the words of each object that is made of a literal.
func lengths(l api.Lit) []int {
	switch l.Kind {
	case api.LitText:
		return []int{2 + (len(l.Text)+3)/4}
	case api.LitArray:
		var list []int
		for _, item := range l.Items {
			list = append(list, lengths(item)...)
		}
		if n, one := arrayWords(len(l.Items)); one == 1 {
			list = append(list, n)
		}
		return list
	}
	return nil
}

// act does some allocations; what was counted of the mark is given back where it is refused.
func (m *model) act(list []int, symbols []string, more ...*modelMethod) api.Errno {
	mark := m.mark
	e := m.alloc(list, more...)
	if e == api.OK {
		m.symbols = symbols
	} else if m.mark != 0 {
		m.mark = mark
	}
	return e
}

func (m *model) compile(class int, source string, isDoit bool) (*modelMethod, api.Fault) {
	fields, there := m.fields[class]
	if !there {
		return nil, fault(api.ErrClass, 0)
	}
	s, c, symbols, f := m.make(source, isDoit, fields)
	if f.Code != api.OK {
		return nil, f
	}
	held := lengths(api.Lit{Kind: api.LitArray, Items: c.Literals})
	text := 2 + (len(source)+3)/4
	if e := m.act(slices.Concat(held, []int{2 + len(c.Words), text, 11}), symbols); e != api.OK {
		return nil, fault(e, 0)
	}
	h := &holding{words: text, oops: 1 + len(held)}
	for _, n := range held {
		h.words += n
	}
	return &modelMethod{class: class, layout: m.layouts[class], doit: isDoit, source: source, selector: s.Selector, code: c, holding: h}, api.Fault{}
}

func (m *model) again(old *modelMethod, fields []string, layout int) (*modelMethod, api.Errno) {
	if layout < 0 || layout > api.MaxCount {
		return nil, api.ErrArg
	}
	_, c, symbols, f := m.make(old.source, old.doit, fields)
	if f.Code != api.OK {
		return nil, f.Code
	}
	if e := m.act([]int{2 + len(c.Words), 11}, symbols, old); e != api.OK {
		return nil, e
	}
	x := *old
	x.code, x.layout = c, layout
	return &x, api.OK
}

// twin is a kernel and a model of it that are told the same.
type twin struct {
	t    *testing.T
	r    *rand.Rand
	k    *class.Kernel
	m    *model
	came map[api.Errno]int // how often each answer came
}

func newTwin(t *testing.T, r *rand.Rand, came map[api.Errno]int) *twin {
	t.Helper()
	known, p := worldOf(t, 300+r.Intn(500), 40+r.Intn(60))
	q := defined(t, known, "Q", "P", "z")
	k := few(t, known, r.Intn(12))
	m := &model{
		most: known.Symbols().Count(), symbols: k.Symbols().All(),
		names:   api.Names{Globals: []string{"G"}},
		fields:  map[int][]string{p: {"x", "y"}, q: {"x", "y", "z"}},
		layouts: map[int]int{},
	}
	for m.most = len(m.symbols); ; m.most++ {
		if _, e := k.Symbols().Add(fmt.Sprint("#", m.most)); e != api.OK {
			break
		}
	}
	k.Symbols().Back(len(m.symbols))
	for n := range 14 {
		m.fields[4+n] = nil
		m.names.Classes = append(m.names.Classes, m.symbols[n])
	}
	m.names.Classes = append(m.names.Classes, "P", "Q")
	m.words, m.oops = k.Space().Room()
	return &twin{t, r, k, m, came}
}

func (w *twin) pick(list ...string) string { return list[w.r.Intn(len(list))] }

// expression is one of any kind, now and then one that may not be.
func (w *twin) expression(deep int) string {
	if deep == 0 {
		return w.pick("1", "-5", "x", "y", "G", "P", "self", "nil", "'a'", "'some text'", "''", "#()", "#sy", "x", "y", "z", "t")
	}
	sub := func() string { return w.expression(w.r.Intn(deep)) }
	switch w.r.Intn(7) {
	case 0:
		return w.literal(deep)
	case 1:
		return "(" + sub() + " foo: " + sub() + ")"
	case 2:
		return "(" + sub() + " + " + sub() + ")"
	case 3:
		return "[:p | " + sub() + ". " + sub() + "]"
	case 4:
		return "(" + sub() + " ifTrue: [" + sub() + "])"
	case 5:
		return "(x := " + sub() + ")"
	}
	return sub()
}

func (w *twin) literal(deep int) string {
	var list []string
	for range w.r.Intn(4) {
		if deep > 0 && w.r.Intn(3) == 0 {
			list = append(list, w.literal(deep-1))
			continue
		}
		list = append(list, w.pick("1", "-3", "'b'", "''", "'longer one'", "#s", "#other:one:", "nil", "true", "false", "#()"))
	}
	return "#(" + strings.Join(list, " ") + ")"
}

func (w *twin) source(isDoit bool) string {
	head := w.pick("one", "two: a", "+ a", "at: a put: b", "sel", "sol", " foo | t |", "bar | t |")
	if isDoit {
		head = w.pick("", " ", "| t |", "| x y t |")
	}
	var list []string
	for range w.r.Intn(3) {
		list = append(list, w.expression(w.r.Intn(4)))
	}
	list = append(list, "^"+w.expression(w.r.Intn(3)))
	source := head + " " + strings.Join(list, ". ")
	if w.r.Intn(30) == 0 {
		source += w.pick(")", ".", " 'a", "]", " | t |")
	}
	return source
}

func (w *twin) wantSame(oop int, x *modelMethod) {
	w.t.Helper()
	i := infoOf(w.t, w.k, oop)
	want := api.MethodInfo{
		Selector: x.selector, Class: x.class, Layout: x.layout, Args: x.code.Args, Temps: x.code.Temps, Stack: x.code.Stack,
		Literals: i.Literals, Code: x.code.Words, Source: x.source,
	}
	if fmt.Sprint(i) != fmt.Sprint(want) {
		w.t.Fatalf("Info = %v, want %v", i, want)
	}
	w.wantLiteral(api.Word(4*i.Literals), api.Lit{Kind: api.LitArray, Items: x.code.Literals})
	wantStale(w.t, w.k, oop, x.layout != w.m.layouts[x.class])
}

// wantLiteral holds what a literal became in the heap against it.
func (w *twin) wantLiteral(x api.Word, l api.Lit) {
	w.t.Helper()
	h := w.k.Space().Heap()
	c, _ := h.Class(int(x) / 4)
	n, format, e := h.Size(int(x) / 4)
	simple := map[int]api.Word{
		api.LitInt: api.Word(2*l.Number + 1), api.LitSymbol: api.Word(4*l.Number + 2),
		api.LitNil: 4, api.LitFalse: 8, api.LitTrue: 12,
	}
	want, is := simple[l.Kind]
	switch {
	case is:
		if x != want {
			w.t.Fatalf("the literal %v is %d", l, x)
		}
	case e != api.OK:
		w.t.Fatalf("the literal %v is %d", l, x)
	case l.Kind == api.LitText:
		if c != 4*api.String || format != 1 || n != len(l.Text) {
			w.t.Fatalf("the literal %v is %d with %d slots", l, x, n)
		}
		for i := range n {
			if at(w.k, int(x)/4, i) != api.Word(l.Text[i]) {
				w.t.Fatalf("the literal %v is another", l)
			}
		}
	default:
		if c != 4*api.Array || format != 0 || n != len(l.Items) || (n == 0) != (x == 72) {
			w.t.Fatalf("the literal %v is %d with %d slots", l, x, n)
		}
		for i := range n {
			w.wantLiteral(at(w.k, int(x)/4, i), l.Items[i])
		}
	}
}

// may keeps a new method, or does not.
func (w *twin) may(oop int, x *modelMethod) {
	w.t.Helper()
	x.oop = oop
	w.wantSame(oop, x)
	if w.r.Intn(3) > 0 {
		kept(w.k, oop)
		w.m.methods = append(w.m.methods, x)
	}
}

func (w *twin) compile() {
	w.t.Helper()
	classes := []int{4, 5, 8, 15, 1, 18}
	for oop := range w.m.fields {
		classes = append(classes, oop, oop)
	}
	slices.Sort(classes)
	c := classes[w.r.Intn(len(classes))]
	if w.r.Intn(2) == 0 {
		c, _ = w.k.Numbered(15 + w.r.Intn(2))
	}
	source := w.source(false)
	x, want := w.m.compile(c, source, false)
	oop, f := method.Compile(w.k, c, source)
	w.hold(oop, f, x, want, source)
}

func (w *twin) doit() {
	w.t.Helper()
	source := w.source(true)
	x, want := w.m.compile(5, source, true)
	oop, f := method.Doit(w.k, source)
	w.hold(oop, f, x, want, source)
}

func (w *twin) hold(oop int, f api.Fault, x *modelMethod, want api.Fault, source string) {
	w.t.Helper()
	if f != want || (oop == 0) != (x == nil) {
		w.t.Fatalf("%q comes to %d, %v, want %v", source, oop, f, want)
	}
	w.came[f.Code]++
	if x != nil {
		w.may(oop, x)
	}
}

func (w *twin) again() {
	w.t.Helper()
	if len(w.m.methods) == 0 {
		return
	}
	i := w.r.Intn(len(w.m.methods))
	old := w.m.methods[i]
	if w.r.Intn(3) == 0 && i == len(w.m.methods)-1 {
		// It is asked for what nothing leads to.
		w.k.Space().Drop(1)
		w.m.methods = w.m.methods[:i]
	}
	fields := [][]string{{"x", "y"}, {"y", "x"}, {"z", "y", "x"}, {"x", "y", "z"}, {"x"}, nil}[w.r.Intn(6)]
	_, _, _, want := w.m.make(old.source, old.doit, fields)
	wantCheck(w.t, w.k, old.oop, want, fields...)
	layout := w.r.Intn(3)
	x, wantE := w.m.again(old, fields, layout)
	oop, e := method.Again(w.k, old.oop, fields, layout)
	if e != wantE || (oop == 0) != (x == nil) {
		w.t.Fatalf("Again of %q comes to %d, %d, want %d", old.source, oop, e, wantE)
	}
	if x != nil {
		w.may(oop, x)
	}
}

func (w *twin) memory() {
	w.t.Helper()
	switch w.r.Intn(5) {
	case 0:
		w.m.mark = w.r.Intn(12)
		w.k.Space().Heap().Mark(w.m.mark)
	case 1:
		w.k.Space().Collect()
	case 2:
		n := w.r.Intn(len(w.m.methods) + 1)
		w.k.Space().Drop(n)
		w.m.methods = w.m.methods[:len(w.m.methods)-n]
	case 3:
		c, _ := w.k.Numbered(15 + w.r.Intn(2))
		w.m.layouts[c] = w.r.Intn(3)
		w.k.Space().Heap().Put(c, api.ClassLayout, api.Word(2*w.m.layouts[c]+1))
	case 4:
		// Litter, where there is room without a collection.
		if words, oops := w.k.Space().Heap().Room(); words > 2 && oops > 0 && w.m.mark == 0 {
			w.k.Space().Alloc(4*api.Array, w.r.Intn(words-2), 0)
		}
	}
}

// holdAll holds all that there is to be seen against the model.
func (w *twin) holdAll() {
	w.t.Helper()
	for _, x := range w.m.methods {
		w.wantSame(x.oop, x)
	}
	words, oops := w.m.left()
	left, numbers := w.k.Space().Room()
	if words != left || oops != numbers {
		w.t.Fatalf("Room = %d, %d, want %d, %d", left, numbers, words, oops)
	}
	wantMark(w.t, w.k, w.m.mark)
	if len(w.k.Space().Kept()) != len(w.m.methods) || !slices.Equal(w.k.Symbols().All(), w.m.symbols) {
		w.t.Fatalf("%d are kept, the symbols are %q, want %q", w.k.Space().Kept(), w.k.Symbols().All(), w.m.symbols)
	}
}

// All that the chapter says, whatever comes behind whatever.
func TestAsTheModel(t *testing.T) {
	r := rand.New(rand.NewSource(15))
	came := map[api.Errno]int{}
	for range 300 {
		w := newTwin(t, r, came)
		for range 60 {
			switch r.Intn(4) {
			case 0:
				w.compile()
			case 1:
				w.doit()
			case 2:
				w.again()
			default:
				w.memory()
			}
			w.holdAll()
		}
	}
	for _, e := range []api.Errno{
		api.OK, api.ErrFull, api.ErrMarked, api.ErrSymbols, api.ErrClass, api.ErrToken, api.ErrSyntax, api.ErrUnknown, api.ErrTwice,
	} {
		if came[e] < 10 {
			t.Fatalf("the answer %d came %d times", e, came[e])
		}
	}
}
