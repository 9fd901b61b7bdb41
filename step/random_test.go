package step_test

import (
	"fmt"
	"math/rand"
	"slices"
	"strconv"
	"strings"
	"testing"

	"kiln/api"
	"kiln/context"
	"kiln/parse"
	"kiln/step"
)

// writer writes sources at random.
type writer struct {
	*rand.Rand
	names  []string // what may be read
	stores []string // what may be stored to
	fresh  int
}

func (r *writer) one(list ...string) string { return list[r.Intn(len(list))] }

// name is one that is not there yet.
func (r *writer) name() string {
	r.fresh++
	return "v" + strconv.Itoa(r.fresh)
}

// statements is some of them, the last one perhaps a return.
func (r *writer) statements(deep int) string {
	var list []string
	for range r.Intn(4) {
		list = append(list, r.expression(deep))
	}
	if r.Intn(4) == 0 {
		list = append(list, "^"+r.expression(deep))
	}
	return strings.Join(list, ". ")
}

// block is one with so many parameters, and perhaps a temporary.
func (r *writer) block(params, deep int) string {
	names, stores := r.names, r.stores
	defer func() { r.names, r.stores = names, stores }()
	r.names, r.stores = slices.Clone(names), slices.Clone(stores)
	text := "["
	for range params {
		n := r.name()
		r.names = append(r.names, n, n)
		text += ":" + n + " "
	}
	if params > 0 {
		text += "| "
	}
	if r.Intn(3) == 0 {
		n := r.name()
		r.names, r.stores = append(r.names, n), append(r.stores, n)
		text += "| " + n + " | "
	}
	return text + r.statements(deep-1) + "]"
}

func (r *writer) expression(deep int) string {
	if deep <= 0 {
		return r.leaf()
	}
	in := func() string { return "(" + r.expression(deep-1) + ")" }
	switch r.Intn(28) {
	case 0, 1:
		return r.leaf()
	case 2, 3:
		return r.one(r.stores...) + " := " + in()
	case 4, 5:
		return in() + " " + r.one("yourself", "isNil", "notNil", "class", "not", "size", "new", "foo", "bar", "zork", "numArgs", "name", "superclass", "negated", "odd", "instVarSize")
	case 6, 7:
		return in() + " " + r.one("+", "+", "-", "*", "//", "<", ">", "=", "==", "~~", "&") + " " + in()
	case 8:
		return in() + " " + r.one("at:", "instVarAt:", "isKindOf:", "foo:", "zork:", "and:", "or:", "new:", "doesNotUnderstand:") + " " + in()
	case 9:
		return in() + " " + r.one("at: 1 put:", "instVarAt: 1 put:", "at: 2 put:", "foo: 1 bar:", "zork: 1 zork:") + " " + in()
	case 10:
		return "super " + r.one("foo", "bar", "class", "zork", "isNil", "foo: 3", "value")
	case 11:
		return "self " + r.one("foo", "bar", "foo: "+in(), "foo: 4 bar: "+in())
	case 12:
		return r.block(r.Intn(3), deep)
	case 13:
		return r.block(0, deep) + " value"
	case 14:
		return r.block(1, deep) + " value: " + in()
	case 15:
		return in() + " " + r.one("value", "value", "value: 3", "value: 1 value: 2")
	case 16:
		return in() + " " + r.one("ifTrue:", "ifFalse:", "and:", "or:") + " " + r.block(0, deep)
	case 17:
		return in() + " " + r.one("ifTrue: ", "isNil ifTrue: ", "notNil ifTrue: ") + r.block(0, deep) + " ifFalse: " + r.block(0, deep)
	case 18:
		return r.one("1", "0", "-1", in()) + " to: " + r.one("3", "2", "0", in()) + " do: " + r.block(1, deep)
	case 19:
		v := r.one(r.stores...)
		return v + " := 0. [" + v + " < 3] whileTrue: [" + v + " := " + v + " + 1. " + r.expression(deep-1) + "]"
	case 20:
		return r.block(0, deep) + " " + r.one("whileTrue: ", "whileFalse: ") + r.block(0, deep)
	case 21:
		return in() + " " + r.one("foo", "bar", "+ 1", "foo: 2") + "; " + r.one("yourself", "zork", "bar", "class", "== nil")
	case 23:
		return r.one("G", "H") + " := " + r.block(r.Intn(2), deep)
	case 24:
		return r.one("G", "H") + " " + r.one("value", "value", "value: 3")
	case 25:
		return r.one("1", "2", "7") + " " + r.one("+", "-", "*", "//", "<") + " " + r.one("0", "1", "3", in())
	case 26:
		return "(A new instVarAt: 1 put: " + in() + "; yourself) " + r.one("foo", "bar", "instVarAt: 1", "yourself")
	case 22:
		return r.one("A", "B", "Object", "Array", "String") + " " + r.one("new", "new", "new: 2", "new: 0", "name")
	}
	return r.one("A", "B") + " new " + r.one("foo", "bar", "foo: "+in())
}

func (r *writer) leaf() string {
	return r.one(r.one(r.names...), r.one(r.names...), "self", "nil", "true", "false", "1", "2", "0", "7", "1073741823", "#a", "#foo:", "'ab'", "#(1 #(2 nil) true #b 'c')", "#()", "A", "Integer")
}

// source is a method's, with such a head, or a doit's.
func (r *writer) source(head string, fields []string) string {
	r.names, r.stores = append([]string{"G", "H"}, fields...), append([]string{"G", "H"}, fields...)
	text := ""
	if head != "" {
		for _, part := range strings.Fields(head) {
			if strings.HasSuffix(part, ":") || part == "+" {
				n := r.name()
				text += part + " " + n + " "
				r.names = append(r.names, n, n)
			} else {
				text += part + " "
			}
		}
	}
	if r.Intn(2) == 0 {
		n := r.name()
		r.names, r.stores = append(r.names, n, n), append(r.stores, n, n)
		text += "| " + n + " | "
	}
	s := r.statements(3)
	if r.Intn(2) == 0 && !strings.Contains(s, ". ^") && !strings.HasPrefix(s, "^") {
		s += ". ^" + r.expression(2)
	}
	return text + strings.TrimPrefix(s, ". ")
}

// twin is a world and its model.
type twin struct {
	*world
	m    *model
	seen map[any]int // the oop of what the model has
	oops map[int]any
}

func newTwin(t *testing.T) *twin {
	w := bare(t, 60000, 6000)
	w.global("G")
	w.global("H")
	w.class("A", "Object", "x", "y")
	w.class("B", "A", "z")
	m := &model{names: []string{"G", "H"}, globals: make([]val, 2), void: &marray{}}
	for n := 1; n <= w.k.Count(); n++ {
		oop, _ := w.k.Numbered(n)
		i, _ := w.k.Info(oop)
		c := &mclass{oop: oop, name: i.Name, own: i.Own, methods: map[string]*mmethod{}}
		for _, s := range m.classes {
			if s.name == i.Super {
				c.super = s
			}
		}
		m.classes = append(m.classes, c)
	}
	return &twin{world: w, m: m}
}

// lays lays a method into a class of both, if it may be one.
func (w *twin) lays(number int, source string) {
	c := w.m.classes[number-1]
	do, ok := w.m.compile(c, source, parse.Method)
	if !ok {
		return
	}
	w.method(c.name, source)
	c.methods[do.selector] = do
}

// same tells whether a value of the model is a word's: those of the same
// object are, and their slots.
func (w *twin) same(v val, x api.Word) bool {
	switch y := v.(type) {
	case nil:
		return x == null
	case bool:
		return y && x == yes || !y && x == no
	case int:
		return x == num(y)
	case sym:
		n, there := w.k.Symbols().Find(string(y))
		return there && x == api.Word(4*n+2)
	case *mclass:
		return x == obj(y.oop)
	}
	if v == any(w.m.void) {
		return x == empty
	}
	oop := int(x / 4)
	if n, there := w.seen[v]; there || w.oops[oop] != nil {
		return n == oop && w.oops[oop] == v
	}
	w.seen[v], w.oops[oop] = oop, v
	c, e := w.k.Of(x)
	if e != api.OK || c != w.m.of(v).oop {
		return false
	}
	switch y := v.(type) {
	case *mobject:
		return w.sameAll(y.slots, w.slots(oop))
	case *marray:
		return w.sameAll(y.items, w.slots(oop))
	case *mmessage:
		return w.sameAll([]val{y.selector, y.args}, w.slots(oop))
	case *mblock:
		b, e := context.Block(w.k, oop)
		if e != api.OK || b.Params != y.node.Params || b.Temps != y.node.Slots || !w.same(y.outer.self, b.Receiver) {
			return false
		}
		outer := w.slots(int(b.Outer / 4))[api.ContextSlots:]
		return w.sameAll(y.outer.slots, outer[:len(y.outer.slots)])
	case *mtext:
		s := w.slots(oop)
		for i, c := range y.bytes {
			if len(s) != len(y.bytes) || s[i] != api.Word(c) {
				return false
			}
		}
		return len(s) == len(y.bytes)
	}
	return false
}

func (w *twin) sameAll(list []val, words []api.Word) bool {
	if len(list) != len(words) {
		return false
	}
	for i, v := range list {
		if !w.same(v, words[i]) {
			return false
		}
	}
	return true
}

// runs lets a doit go on in both, with the same fuel, here in pieces.
func (w *twin) runs(r *rand.Rand, source string, fuel int, came map[string]int) {
	value, want := w.m.run(source, fuel)
	p := w.spawn(source)
	got := api.Ran{State: api.Ready}
	for got.State == api.Ready && (got.Used < fuel || fuel == 0) {
		used := got.Used
		got = step.Go(w.k, w.b, p, min(r.Intn(6), fuel-used))
		got.Used += used
		if got.State == api.Ready && (got.Used >= len(w.m.events) || step.Next(w.k, p) != w.m.events[got.Used]) {
			w.t.Fatalf("%q: behind %d events of %q stands %q", source, got.Used, w.m.events, step.Next(w.k, p))
		}
		if fuel == 0 {
			break
		}
	}
	x := got.Value
	if got.Value = 0; got != want {
		w.t.Fatalf("%q: %+v, want %+v; events %q", source, got, want, w.m.events)
	}
	w.seen, w.oops = map[any]int{}, map[int]any{}
	for i, v := range w.m.globals {
		if y, _ := w.k.Value(i); !w.same(v, y) {
			w.t.Fatalf("%q: the global %d is %d, want %v", source, i, y, v)
		}
	}
	if got.State == api.Ended && !w.same(value, x) {
		w.t.Fatalf("%q: it has ended with %d, want %v", source, x, value)
	}
	came[fmt.Sprint(got.State, int(got.Code))]++
	w.k.Space().Drop(1)
}

// P18.2 to P18.6: random programs come to what the model comes to.
func TestModel(t *testing.T) {
	came := map[string]int{}
	for seed := range int64(1000) {
		r := &writer{Rand: rand.New(rand.NewSource(seed))}
		w := newTwin(t)
		for range 3 + r.Intn(8) {
			// Object, UndefinedObject, Integer, Array, Block, A, B.
			number := []int{1, 2, 5, 8, 11, 15, 15, 16, 16}[r.Intn(9)]
			head := r.one("foo", "bar", "foo:", "foo: bar:", "+", "value", "doesNotUnderstand:", "at:", "foo", "bar")
			w.lays(number, r.source(head, w.m.classes[number-1].fields()))
		}
		for range 8 {
			source := r.source("", nil)
			if _, ok := w.m.compile(w.m.classes[1], source, parse.Doit); !ok {
				continue
			}
			w.runs(r.Rand, source, []int{0, 3, 40, 150, 400}[r.Intn(5)], came)
		}
	}
	for _, c := range []api.Errno{api.ErrUnderstood, api.ErrPrim, api.ErrZero, api.ErrIndex, api.ErrBool, api.ErrHome, api.ErrDeepRun} {
		if came[fmt.Sprint(api.Failed, int(c))] < 3 {
			t.Errorf("few programs came to %d: %v", c, came)
		}
	}
	if came["1 0"] < 100 || came["2 0"] < 300 {
		t.Errorf("few programs were ready or ended: %v", came)
	}
	t.Log(came)
}
