package image_test

import (
	"fmt"
	"math/rand"
	"slices"
	"strings"
	"testing"

	"kiln/api"
	"kiln/image"
	"kiln/proc"
)

// chooser chooses acts at random. Most of them can be done in the world as it is.
type chooser struct {
	*rand.Rand
	names []string // what a source may read and store to
	fixed []string // what it may read alone
	deep  int
}

func choosing(seed int64) *chooser { return &chooser{Rand: rand.New(rand.NewSource(seed))} }

func (r *chooser) one(list ...string) string { return list[r.Intn(len(list))] }

func (r *chooser) class(w *world) string {
	if r.Intn(20) == 0 {
		return r.one("Nope", "Class", "Message")
	}
	made := []string{"Object", "Integer", "Block", "Array"}
	for n := api.KernelClasses + 1; n <= w.k.Count(); n++ {
		oop, _ := w.k.Numbered(n)
		info, _ := w.k.Info(oop)
		made = append(made, info.Name, info.Name)
	}
	return r.one(made...)
}

// fields is some names, those of the class first, mostly.
func (r *chooser) fields(w *world, class string) []string {
	list := []string{"a", "b", "c", "d", "e"}
	r.Shuffle(len(list), func(i, j int) { list[i], list[j] = list[j], list[i] })
	list = list[:r.Intn(4)]
	oop, _ := w.k.Find(class)
	info, _ := w.k.Info(oop)
	if r.Intn(4) == 0 {
		return list
	}
	all := slices.Clone(info.Own)
	for _, s := range list {
		if !slices.Contains(all, s) {
			all = append(all, s)
		}
	}
	r.Shuffle(len(all), func(i, j int) { all[i], all[j] = all[j], all[i] })
	return all
}

// block is one, with so many parameters, and perhaps a temporary.
func (r *chooser) block(params int) string {
	names, fixed := r.names, r.fixed
	defer func() { r.names, r.fixed = names, fixed }()
	r.names, r.fixed = slices.Clone(names), slices.Clone(fixed)
	text := "["
	if params > 0 {
		name := fmt.Sprint("p", len(r.fixed))
		r.fixed = append(r.fixed, name, name)
		text += ":" + name + " | "
	}
	if r.Intn(3) == 0 {
		name := fmt.Sprint("v", len(r.names))
		r.names = append(r.names, name, name)
		text += "| " + name + " | "
	}
	return text + r.statements() + "]"
}

func (r *chooser) statements() string {
	var list []string
	for range 1 + r.Intn(3) {
		list = append(list, r.expression())
	}
	if r.Intn(3) == 0 {
		list = append(list, "^"+r.expression())
	}
	return strings.Join(list, ". ")
}

func (r *chooser) expression() string {
	if r.deep > 3 {
		return r.leaf()
	}
	r.deep++
	defer func() { r.deep-- }()
	in := func() string { return "(" + r.expression() + ")" }
	switch r.Intn(20) {
	case 0, 1:
		return r.leaf()
	case 2, 3, 4:
		return r.one(r.names...) + " := " + in()
	case 5:
		return in() + " " + r.one("foo", "bar", "class", "isNil", "copy", "yourself", "value", "zork")
	case 6:
		return r.one("1", "7", in()) + " " + r.one("+", "-", "==", "=", "~~") + " " + in()
	case 7:
		return in() + " " + r.one("foo:", "foo:", "zork:", "value:", "isKindOf:") + " " + in()
	case 8:
		return in() + " foo: 1 bar: " + in()
	case 9:
		return "super " + r.one("foo", "bar", "yourself", "class")
	case 10:
		return "self " + r.one("foo", "bar", "foo: 3", "yourself")
	case 11, 12:
		return r.one("G", "H") + " := " + r.block(r.Intn(2))
	case 13:
		return r.block(0) + " value"
	case 14:
		return r.block(1) + " value: " + in()
	case 15:
		return in() + " isNil " + r.one("ifTrue: ", "ifFalse: ", "and: ") + r.block(0)
	case 16:
		return in() + " notNil ifTrue: " + r.block(0) + " ifFalse: " + r.block(0)
	case 17:
		return "1 to: 3 do: " + r.block(1)
	case 18:
		return r.one("G", "H", r.one(r.names...)) + " := " + r.one("A", "Object", "Array") + " new" + r.one("", "", ": 2")
	}
	return in() + " yourself; foo; class"
}

func (r *chooser) leaf() string {
	return r.one(r.one(r.names...), r.one(append(r.fixed, "self")...), r.one("nil", "true", "1", "2", "#a", "'ab'", "#(1 #(2 'c') #b)", "#()", "Object", "A", "'mm' asSymbol"))
}

// source is a method's with such a head, or a doit's, of a class.
func (r *chooser) source(w *world, head, class string) string {
	r.names, r.fixed = []string{"G", "H", "t", "t"}, nil
	oop, _ := w.k.Find(class)
	fields, _ := w.k.Fields(oop)
	r.names = append(append(r.names, fields...), fields...)
	if strings.HasSuffix(head, " x") {
		r.fixed = append(r.fixed, "x")
	}
	return strings.TrimSpace(head + " | t | " + r.statements())
}

// picked is a process that is ready, mostly.
func (r *chooser) picked(w *world) int {
	n := 1 + r.Intn(proc.Count(w.k)+1)
	for range 6 {
		if state, _ := proc.State(w.k, n); state == api.Ready {
			return n
		}
		n = 1 + r.Intn(proc.Count(w.k)+1)
	}
	return n
}

// act is any act.
func (r *chooser) act(w *world) api.Act {
	class := r.class(w)
	switch r.Intn(16) {
	case 0:
		return api.Act{Kind: api.ActClass, Name: r.one("A", "B", "C", "D", "E", "F"), Other: class, Names: r.fields(w, "Nope")}
	case 1:
		return global(r.one("G", "H", "J", "K"))
	case 2, 3, 4:
		return lays(class, r.source(w, r.one("foo", "bar", "foo: x", "foo: x", "foo: x bar: y", "doesNotUnderstand: x", "+ x"), class))
	case 5:
		return removes(class, r.one("foo", "bar", "foo:", "doesNotUnderstand:"))
	case 6, 7, 8:
		return spawns(r.source(w, "", "Nope"))
	case 9, 10, 11, 12:
		return runs(r.picked(w), r.Intn(12))
	case 13, 14:
		return api.Act{Kind: api.ActReshape, Name: class, Names: r.fields(w, class)}
	}
	if r.Intn(3) == 0 {
		return api.Act{Kind: api.ActCollect}
	}
	return marks(r.Intn(90))
}

// peopled is a world with two classes and globals.
func peopled(t *testing.T, words, oops int) *world {
	t.Helper()
	w := booted(t, words, oops)
	w.acts(global("G"), global("H"), defines("A", "Object", "a b"), defines("B", "A", "c"))
	return w
}

// P23.5: whatever acts came ahead, a kernel is sound, Load takes what Save says,
// and what is loaded says and does the same.
func TestActs(t *testing.T) {
	for seed := range int64(24) {
		r := choosing(seed)
		w := peopled(t, []int{500, 1500, 12000}[r.Intn(3)], 60+r.Intn(1500))
		v := load(t, w.save())
		for i := range 120 {
			a := r.act(w)
			got, want := v.do(a), w.do(a)
			if got != want {
				t.Fatalf("seed %d, act %d %+v: %q, want %q", seed, i, a, got, want)
			}
			if !image.Sound(w.k) || !image.Sound(v.k) {
				t.Fatalf("seed %d, act %d %+v: not sound: %s", seed, i, a, cut(w.save()))
			}
			if r.Intn(4) == 0 {
				v = load(t, v.save())
			}
			if r.Intn(4) == 0 {
				w.same(v, fmt.Sprint("seed ", seed, ", act ", i))
			}
		}
	}
}
