package image_test

import (
	"fmt"
	"math/rand"
	"strings"
	"testing"

	"kiln/api"
	"kiln/image"
	"kiln/proc"
)

// chooser chooses acts at random.
type chooser struct {
	*rand.Rand
	deep int
}

func (r *chooser) one(list ...string) string { return list[r.Intn(len(list))] }

func (r *chooser) class() string {
	return r.one("A", "B", "C", "D", "A", "B", "Object", "Integer", "Block", "Array", "Class", "Nope")
}

func (r *chooser) fields() string {
	list := []string{"a", "b", "c", "d", "e"}
	r.Shuffle(len(list), func(i, j int) { list[i], list[j] = list[j], list[i] })
	return strings.Join(list[:r.Intn(4)], " ")
}

// block is one, with a parameter perhaps.
func (r *chooser) block(params int) string {
	names := []string{":i ", ":j ", ":k "}[r.Intn(3)]
	if params == 0 {
		return "[" + r.statements() + "]"
	}
	return "[" + names + "| " + r.statements() + "]"
}

func (r *chooser) statements() string {
	var list []string
	for range 1 + r.Intn(3) {
		list = append(list, r.expression())
	}
	if r.Intn(3) == 0 {
		list = append(list, "^"+r.expression())
	}
	return strings.Join(list, ". ")
}

func (r *chooser) expression() string {
	if r.deep > 3 {
		return r.leaf()
	}
	r.deep++
	defer func() { r.deep-- }()
	in := func() string { return "(" + r.expression() + ")" }
	switch r.Intn(18) {
	case 0, 1:
		return r.leaf()
	case 2, 3:
		return r.one("a", "b", "G", "H", "t") + " := " + in()
	case 4:
		return in() + " " + r.one("foo", "bar", "zork", "class", "size", "copy", "printString", "value", "numArgs")
	case 5:
		return in() + " " + r.one("+", "-", ",", "==", "=", "<") + " " + in()
	case 6:
		return in() + " " + r.one("at:", "foo:", "zork:", "value:", "new:", "instVarAt:") + " " + in()
	case 7:
		return in() + " " + r.one("at: 1 put:", "instVarAt: 1 put:", "foo: 1 bar:") + " " + in()
	case 8:
		return "super " + r.one("foo", "bar", "zork", "yourself")
	case 9:
		return "self " + r.one("foo", "bar", "foo: 3", "yourself")
	case 10, 11:
		return r.block(r.Intn(2))
	case 12:
		return r.block(0) + " value"
	case 13:
		return r.block(1) + " value: " + in()
	case 14:
		return in() + " isNil ifTrue: " + r.block(0) + " ifFalse: " + r.block(0)
	case 15:
		return "1 to: 3 do: " + r.block(1)
	case 16:
		return r.one("A", "B", "C", "D", "Array") + " new" + r.one("", "", " foo", " bar")
	}
	return in() + " foo; bar; yourself"
}

func (r *chooser) leaf() string {
	return r.one("a", "b", "self", "nil", "true", "1", "2", "G", "H", "t", "i", "#a", "'ab'", "#(1 #(2 'c') #b)", "#()", "Object", "'mm' asSymbol")
}

func (r *chooser) source(head string) string {
	return head + " | t | " + r.statements()
}

// act is any act.
func (r *chooser) act(processes int) api.Act {
	switch r.Intn(14) {
	case 0:
		return defines(r.one("A", "B", "C", "D"), r.one("Object", "Object", "A", "B", "C"), r.fields())
	case 1:
		return global(r.one("G", "H", "J"))
	case 2, 3, 4:
		return lays(r.class(), r.source(r.one("foo", "bar", "foo: x", "foo: x bar: y", "doesNotUnderstand: m", "+ x")))
	case 5:
		return removes(r.class(), r.one("foo", "bar", "foo:", "doesNotUnderstand:"))
	case 6, 7:
		return spawns(r.source(""))
	case 8, 9, 10, 11:
		return runs(1+r.Intn(processes+1), r.Intn(12))
	case 12:
		return reshapes(r.class(), r.fields())
	}
	if r.Intn(3) == 0 {
		return api.Act{Kind: api.ActCollect}
	}
	return marks(r.Intn(60))
}

// P23.5: whatever acts came ahead, a kernel is sound, Load takes what Save says,
// and what is loaded says and does the same.
func TestActs(t *testing.T) {
	for seed := range int64(60) {
		r := &chooser{Rand: rand.New(rand.NewSource(seed))}
		words := []int{600, 1500, 9000}[r.Intn(3)]
		w := booted(t, words, 60+r.Intn(900))
		w.acts(global("G"), global("H"))
		if seed%2 == 0 {
			w.acts(defines("A", "Object", "a b"), defines("B", "A", "c"))
		}
		v := load(t, w.save())
		for i := range 120 {
			a := r.act(proc.Count(w.k))
			got, want := v.do(a), w.do(a)
			if got != want {
				t.Fatalf("seed %d, act %d %+v: %q, want %q", seed, i, a, got, want)
			}
			if !image.Sound(w.k) || !image.Sound(v.k) {
				t.Fatalf("seed %d, act %d %+v: not sound: %s", seed, i, a, cut(w.save()))
			}
			if r.Intn(4) == 0 {
				v = load(t, v.save())
			}
			if r.Intn(4) == 0 {
				w.same(v, fmt.Sprint("seed ", seed, ", act ", i))
			}
		}
	}
}
