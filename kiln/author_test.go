package kiln_test

import (
	"maps"
	"math/rand"
	"slices"
	"strconv"
	"strings"

	"kiln/api"
)

// author writes scripts at random, and sources for them. What it knows of the
// machine it has from the answers.
type author struct {
	*rand.Rand
	known
	images []string // that were saved
	past   []known  // when they were

	names, stores []string // of the source that is being written: what may be read, and stored to
	fresh         int
}

type known struct {
	classes []string
	super   map[string]string
	own     map[string][]string
	globals []string
	spawned int
	ready   map[int]bool
}

func newAuthor(seed int64) *author {
	return &author{
		Rand:  rand.New(rand.NewSource(seed)),
		known: known{super: map[string]string{}, own: map[string][]string{}, ready: map[int]bool{}},
	}
}

func (k known) copied() known {
	return known{slices.Clone(k.classes), maps.Clone(k.super), maps.Clone(k.own), slices.Clone(k.globals), k.spawned, maps.Clone(k.ready)}
}

func (w *author) one(list ...string) string { return list[w.Intn(len(list))] }

// fields is all fields of a class that was made.
func (w *author) fields(class string) []string {
	if w.super[class] == "" {
		return nil
	}
	return slices.Concat(w.fields(w.super[class]), w.own[class])
}

// learn is what an answer tells the author.
func (w *author) learn(a api.Act, x api.Answer, saved string) {
	switch {
	case a.Kind == api.ActRun:
		w.ready[a.Number] = x.State == api.Ready
	case x.Code != api.OK:
	case a.Kind == api.ActClass:
		w.classes = append(w.classes, a.Name)
		w.super[a.Name], w.own[a.Name] = a.Other, a.Names
	case a.Kind == api.ActGlobal:
		w.globals = append(w.globals, a.Name)
	case a.Kind == api.ActReshape:
		w.own[a.Name] = a.Names
	case a.Kind == api.ActSpawn:
		w.spawned++
		w.ready[w.spawned] = true
	case a.Kind == api.ActSave:
		w.images, w.past = append(w.images, saved), append(w.past, w.known.copied())
	case a.Kind == api.ActLoad:
		text := a.Text
		if text == "" {
			text = saved
		}
		for i, s := range w.images {
			if s == text {
				w.known = w.past[i].copied()
			}
		}
	}
}

// begin is the acts that each script begins with.
func begin() []api.Act {
	return []api.Act{
		{Kind: api.ActClass, Name: "P", Other: "Object", Names: []string{"x", "y"}},
		{Kind: api.ActGlobal, Name: "G"}, {Kind: api.ActGlobal, Name: "H"},
		{Kind: api.ActMethod, Name: "P", Text: "x: a y: b x := a. y := b"},
		{Kind: api.ActMethod, Name: "P", Text: "sum ^x + y"},
		{Kind: api.ActMethod, Name: "P", Text: "step: k ^[:b | k + b] value: k"},
		{Kind: api.ActMethod, Name: "P", Text: "wait: n 1 to: n do: [:i | self step: i]. ^self"},
		{Kind: api.ActMethod, Name: "P", Text: "blk ^[:k | ^k]"},
		{Kind: api.ActMethod, Name: "Object", Text: "deep ^self deep"},
		{Kind: api.ActSpawn, Text: "G := P new. G x: 3 y: 4. H := Array new: 2. H at: 1 put: G. G"},
	}
}

// turn is the act in that place of a script.
func (w *author) turn(i int) api.Act {
	if first := begin(); i < len(first) {
		return first[i]
	}
	return w.act()
}

// act is the next one.
func (w *author) act() api.Act {
	kinds := []int{
		api.ActClass, api.ActClass, api.ActMethod, api.ActMethod, api.ActMethod, api.ActMethod, api.ActRemove, api.ActGlobal,
		api.ActSpawn, api.ActSpawn, api.ActSpawn, api.ActSpawn, api.ActRun, api.ActRun, api.ActRun, api.ActRun, api.ActRun, api.ActRun, api.ActRun,
		api.ActReshape, api.ActReshape, api.ActReshape, api.ActCollect, api.ActInspect, api.ActInspect, api.ActMark, api.ActSave, api.ActLoad,
	}
	a := api.Act{Kind: kinds[w.Intn(len(kinds))]}
	if a.Kind == api.ActRun && len(w.waiting()) == 0 && w.Intn(5) > 0 {
		return api.Act{Kind: api.ActSpawn, Text: w.one("G := P new. G x: 1 y: 2. G wait: 50", w.one(doits()...))}
	}
	switch a.Kind {
	case api.ActClass:
		a.Name, a.Other, a.Names = w.className(), w.one(append(w.classes, "Object", "Object", "Integer", "Nope")...), w.list(3)
	case api.ActMethod:
		a.Name = w.one(append(slices.Repeat(w.classes, 4), "Object", "Integer", "Array", "Block", "String", "Class", "Nope")...)
		a.Text = w.spoilt(w.source(w.one("foo", "foo", "bar", "foo:", "foo: bar:", "+", "sum", "value", "doesNotUnderstand:", "at:"), w.fields(a.Name)))
		if w.Intn(2) == 0 {
			a.Text = w.spoilt(w.one(methods()...))
		}
	case api.ActRemove:
		a.Name, a.Other = w.one(append(w.classes, "Object", "Nope")...), w.one("foo", "bar", "sum", "foo:", "no")
	case api.ActGlobal:
		a.Name = w.one("I", "J", "K", "G", "P", "l", "")
	case api.ActSpawn:
		a.Text = w.spoilt(w.source("", nil))
		if w.Intn(2) == 0 {
			a.Text = w.spoilt(w.one(doits()...))
		}
	case api.ActRun:
		a.Number, a.Fuel = w.process(), []int{0, 1, 1, 2, 3, 3, 5, 7, 10, 20, 60, 400}[w.Intn(12)]
	case api.ActReshape:
		a.Name = w.one(append(slices.Repeat(w.classes, 4), "Object", "Nope")...)
		a.Names = w.changed(w.own[a.Name])
		if w.Intn(5) == 0 {
			a.Names = w.list(4)
		}
	case api.ActMark:
		a.Number = []int{0, 1, 2, 3, 5, 9, 20, -1, 1 << 30, 1<<30 + 1}[w.Intn(10)]
	case api.ActLoad:
		a.Text = w.one(append(w.images, "", "x")...)
	}
	if w.Intn(40) == 0 {
		return api.Act{Kind: w.Intn(20) - 3, Name: a.Name, Number: a.Number}
	}
	return a
}

// methods is sources of methods that go on for a while, and hold on to much.
func methods() []string {
	return []string{
		"wait: n 1 to: n do: [:i | self step: i]. ^self", "step: k ^[:b | k + b] value: k", "each: b ^b value: self sum", "deep ^self deep", "blk ^[:k | ^k]",
		"sum ^3", "sum ^[:a | a] value: 4", "x ^x", "y: b y := b. ^y", "x: a x := a", "x: a y: b x := a. y := b. ^b", "foo | t | t := [x := 1. x]. ^t value", "bar ^super bar",
		"keep: b | t | t := b. H := [t value]. ^t value", "take: n ^n isNil ifTrue: [[:k | G := k. ^k]] ifFalse: [self take: nil]", "chain: n ^n < 1 ifTrue: [self sum] ifFalse: [self chain: n - 1]",
		"wait: n | i | i := 0. [i < n] whileTrue: [i := i + 1. self x: i]", "doesNotUnderstand: m ^m arguments", "doesNotUnderstand: m ^m", "lits ^#(1 'two' #three (4))",
	}
}

// doits is sources of processes of that kind.
func doits() []string {
	return []string{
		"G := P new. G x: 1 y: 2. ^G wait: 9", "^G wait: 20", "G wait: 5. ^G sum", "H := G blk", "^H value: 3", "G deep", "^G each: [:s | s + 1]", "^G each: [:s | G sum]", "^H value",
		"1 to: 9 do: [:i | G := P new. G x: i y: H]", "H := G take: 3. ^H value: 4", "^(G take: 1) value: G", "G keep: [G sum]. ^H value", "^G chain: 7", "G chain: 300", "[true] whileTrue: [G sum]",
		"H := [:n | n < 2 ifTrue: [1] ifFalse: [n * (H value: n - 1)]]. ^H value: 6", "| a | a := Array new: 5. 1 to: 5 do: [:i | a at: i put: P new copy]. H := a", "^7 // 0", "^3 foo", "nil ifTrue: [3]",
		"| t | t := P new. t x: 7 y: t. 1 to: 30 do: [:i | t sum]. ^t", "1 to: 40 do: [:i | i printString asSymbol]", "^'a' , G printString", "H := G. G := P new. ^H == G", "^[^5] value", "G foo. ^G bar",
		"H at: 1 put: [:k | k at: 2 put: H]. (H at: 1) value: H. ^H", "[P new foo. G x: H y: G] value. 1 to: 5 do: [:i | G x: i y: i]", "^(Array new: 40) at: 40 put: (String new: 30)",
	}
}

// waiting is the numbers of the processes that are ready.
func (w *author) waiting() []int {
	var list []int
	for n, is := range w.ready {
		if is {
			list = append(list, n)
		}
	}
	slices.Sort(list)
	return list
}

// process is the number of one, mostly of one that is ready.
func (w *author) process() int {
	list := w.waiting()
	if len(list) == 0 || w.Intn(12) == 0 {
		return w.Intn(w.spawned+3) - 1
	}
	return list[w.Intn(len(list))]
}

func (w *author) className() string {
	if w.Intn(6) == 0 {
		return w.one("p", "P", "Object", "G", "", "R2d2")
	}
	return w.one("Q", "R", "S", "T")
}

// list is some names of fields.
func (w *author) list(most int) []string {
	var list []string
	for range w.Intn(most + 1) {
		list = append(list, w.one("x", "y", "z", "u", "v", "w", "t", "s", "r", "q", "new"))
	}
	if w.Intn(20) == 0 {
		list = append(list, w.one("X", "self", "", "x1"))
	}
	return list
}

// changed is a list in another order, with one name more, or one less.
func (w *author) changed(list []string) []string {
	list = slices.Clone(list)
	w.Shuffle(len(list), func(i, j int) { list[i], list[j] = list[j], list[i] })
	switch w.Intn(6) {
	case 0:
		if len(list) > 0 {
			return list[1:]
		}
	case 1, 2, 3:
		list = append(list, w.one("u", "v", "w", "t", "s"))
	}
	return list
}

// spoilt is a source that is, once in a while, none.
func (w *author) spoilt(source string) string {
	if w.Intn(25) > 0 || source == "" {
		return source
	}
	i := w.Intn(len(source))
	return source[:i] + w.one("", "'", ")", "^", "nope ", "Nope", "$", "x := ") + source[i+1:]
}

// local is a name that is not there yet.
func (w *author) local() string {
	w.fresh++
	return "v" + strconv.Itoa(w.fresh)
}

// source is a method's with such a head, or a doit's.
func (w *author) source(head string, fields []string) string {
	w.fresh = 0
	w.names = slices.Concat(w.globals, fields, fields)
	w.stores = slices.Concat(fields, fields, fields, []string{"H"})
	text := ""
	for _, part := range strings.Fields(head) {
		text += part + " "
		if strings.HasSuffix(part, ":") || part == "+" {
			n := w.local()
			w.names = append(w.names, n, n)
			text += n + " "
		}
	}
	n := w.local()
	w.names, w.stores = append(w.names, n), append(w.stores, n)
	text += "| " + n + " | " + w.statements(3)
	return text
}

func (w *author) statements(deep int) string {
	var list []string
	for range 1 + w.Intn(3) {
		list = append(list, w.expression(deep))
	}
	if w.Intn(3) == 0 {
		list = append(list, "^"+w.expression(deep))
	}
	return strings.Join(list, ". ")
}

// shapes is what expressions look like: $e is one in brackets, $l one of a word,
// $v what may be stored to, $c a class, $0 to $2 a block with so many parameters.
func shapes() []string {
	return []string{
		"$l", "$l", "$v := $e", "$v := $e", "$v := $c new", "$c new", "$c new x: $e y: $e", "$e sum", "$e foo", "$e bar", "$e foo: $e", "$e foo: $l bar: $e",
		"self foo", "self bar", "self sum", "self foo: $e", "super foo", "super sum", "super yourself", "$e zork: $l", "$e + $e", "$l - $l", "$l * $e", "$l // $l", "$l \\\\ $e",
		"$e < $e", "$e >= $l", "$e = $e", "$e == $e", "$e ~~ $e", "$l & $e", "$e isNil", "$e notNil", "$e not", "$e class", "$e yourself", "$e copy", "$e size", "$e isEmpty",
		"$e printString", "$l printString , $e", "$e asSymbol", "$l printString asSymbol", "$e asString", "$e at: 1", "$e at: $l put: $e", "(Array new: 3) at: 2 put: $e; yourself", "Array new: $l", "String new: $l",
		"$e instVarSize", "$e instVarAt: 1", "$e instVarAt: 1 put: $e", "$e instVarAt: $l", "$e isKindOf: $c", "$e numArgs", "$e name", "$e superclass", "$e new",
		"$e min: $e", "$e max: $l", "$l bitShift: $l", "$e bitAnd: $e", "$l negated", "$e abs", "$e even",
		"$0 value", "$1 value: $e", "$2 value: $e value: $l", "$e value", "$e value: $l", "$v := $0", "$v := $1", "$v value", "$v value: $e",
		"$e isNil ifTrue: $0", "$e ifTrue: $0 ifFalse: $0", "$l isNil and: $0", "$e or: $0", "$e and: $e", "1 to: 3 do: $1", "$e to: $e do: $1", "1 to: $l do: $1",
		"$0 whileTrue: $0", "$0 whileFalse: $0", "$e foo; bar; yourself", "$e + 1; - $l", "$e selector", "$e arguments", "$e ifTrue: $e",
	}
}

func (w *author) expression(deep int) string {
	list := shapes()
	if deep <= 0 {
		return w.leaf()
	}
	return w.filled(list[w.Intn(len(list))], deep)
}

func (w *author) filled(shape string, deep int) string {
	head, rest, more := strings.Cut(shape, "$")
	if !more {
		return shape
	}
	text := ""
	switch c := rest[0]; c {
	case 'e':
		text = "(" + w.expression(deep-1) + ")"
	case 'l':
		text = w.leaf()
	case 'v':
		text = w.one(w.stores...)
	case 'c':
		text = w.one(append(w.classes, "P", "Object", "Array", "Integer")...)
	default:
		text = w.block(int(c-'0'), deep-1)
	}
	return head + text + w.filled(rest[1:], deep)
}

func (w *author) block(params, deep int) string {
	names, stores := w.names, w.stores
	defer func() { w.names, w.stores = names, stores }()
	w.names, w.stores = slices.Clone(names), slices.Clone(stores)
	text := "["
	for range params {
		n := w.local()
		w.names = append(w.names, n, n)
		text += ":" + n + " "
	}
	if params > 0 {
		text += "| "
	}
	if w.Intn(4) == 0 {
		n := w.local()
		w.names, w.stores = append(w.names, n, n), append(w.stores, n, n)
		text += "| " + n + " | "
	}
	if w.Intn(8) == 0 {
		return text + "]"
	}
	return text + w.statements(deep) + "]"
}

func (w *author) leaf() string {
	if w.Intn(2) == 0 {
		return w.one(w.names...)
	}
	return w.one("self", "nil", "true", "false", "0", "1", "2", "3", "-1", "7", "1073741823", "#a", "#foo:", "'ab'", "'it''s'", "#(1 #(2 'c') true #b 'd')", "#()", "P", "Integer", "G", "H")
}
