package reshape_test

import (
	"math/rand"
	"slices"
	"strconv"
	"strings"
	"testing"

	"kiln/api"
	"kiln/method"
	"kiln/proc"
)

// wild is a world to which anything is done at random.
type wild struct {
	*world
	r     *rand.Rand
	count map[api.Errno]int // how often each answer came
}

const pool = "a b c d e f g h"

func (w *wild) pick(list []string) string { return list[w.r.Intn(len(list))] }

// name is a class that was made.
func (w *wild) name() string {
	n := 15 + w.r.Intn(w.k.Count()-14)
	oop, _ := w.k.Numbered(n)
	info, _ := w.k.Info(oop)
	return info.Name
}

func wildOf(t *testing.T, r *rand.Rand, count map[api.Errno]int) *wild {
	t.Helper()
	w := &wild{bare(t, 30000, 900), r, count}
	w.global("G")
	w.global("H")
	for i := range 1 + r.Intn(5) {
		w.define(i)
	}
	return w
}

// define makes a class whose own names are new where it stands.
func (w *wild) define(i int) {
	super := "Object"
	if i > 0 && w.r.Intn(3) > 0 {
		super = w.name()
	}
	inherited, _ := w.k.Fields(w.named(super))
	var own []string
	for _, s := range fields(pool) {
		if !slices.Contains(inherited, s) && w.r.Intn(4) == 0 {
			own = append(own, s)
		}
	}
	w.r.Shuffle(len(own), func(i, j int) { own[i], own[j] = own[j], own[i] })
	w.class("C"+strconv.Itoa(i), super, strings.Join(own, " "))
}

// source is a method of a class; of its names some are fields.
func (w *wild) source(class string) string {
	list, _ := w.k.Fields(w.named(class))
	f, other := "nil", w.pick(fields(pool))
	if len(list) > 0 {
		f = w.pick(list)
	}
	s := "s" + strconv.Itoa(w.r.Intn(5))
	if slices.Contains(list, other) {
		other = "own"
	}
	switch w.r.Intn(8) {
	case 0:
		return s + " | " + other + " | " + other + " := " + f + ". ^[:i | " + other + " == i]"
	case 1:
		return s + ": " + other + " ^(" + other + " == " + f + ") ifTrue: [#(1 'a' #(#foo nil))] ifFalse: ['text']"
	case 2:
		return s + " ^#() , " + f
	case 3:
		return s + " super foo. ^G == " + class
	case 4:
		return s + " 1 to: 3 do: [:k | H := [k + " + f + "]]. ^self foo: " + f
	}
	if f == "nil" {
		return s + " ^self"
	}
	return s + ": v " + f + " := v. ^" + f
}

// word is an integer, a symbol, or an object that is there.
func (w *wild) word() api.Word {
	switch w.r.Intn(4) {
	case 0:
		return num(w.r.Intn(100) - 50)
	case 1:
		return api.Word(4*w.r.Intn(14) + 2)
	}
	all := w.k.Space().Heap().All()
	return obj(all[w.r.Intn(len(all))])
}

// make makes an instance, to which something leads, or nothing.
func (w *wild) make() {
	class := w.name()
	list, _ := w.k.Fields(w.named(class))
	oop := w.instance(class, slices.Repeat([]api.Word{null}, len(list))...)
	for i := range list {
		w.put(oop, i, w.word())
	}
	switch w.r.Intn(5) {
	case 0:
		w.keep(oop)
	case 1, 2:
		w.hold(w.r.Intn(2), oop)
	case 3:
		// One that is held holds it.
		x, _ := w.k.Value(w.r.Intn(2))
		w.k.Space().Heap().Put(int(x)/4, 0, obj(oop))
	}
}

// step does something that is no reshape.
func (w *wild) step() {
	class := w.name()
	switch w.r.Intn(8) {
	case 0, 1:
		source := w.source(class)
		m, f := method.Compile(w.k, w.named(class), source)
		if f.Code != api.OK {
			w.t.Fatalf("Compile(%q) = %+v", source, f)
		}
		i, _ := method.Info(w.k, m)
		w.b.Put(w.named(class), i.Selector, m)
	case 2:
		w.b.Remove(w.named(class), "s"+strconv.Itoa(w.r.Intn(5)))
	case 3:
		n, _ := proc.Spawn(w.k, "G := "+class+" new. G s"+strconv.Itoa(w.r.Intn(5))+". ^G s"+strconv.Itoa(w.r.Intn(5)))
		proc.Run(w.k, w.b, n, w.r.Intn(6))
	case 4:
		proc.Run(w.k, w.b, 1+w.r.Intn(proc.Count(w.k)+1), w.r.Intn(3))
	default:
		w.make()
	}
}

// own is names that are to be a class's own ones: mostly its present ones, in
// another order, with some more and some less.
func (w *wild) own(class string) string {
	info, _ := w.k.Info(w.named(class))
	list := slices.Clone(info.Own)
	w.r.Shuffle(len(list), func(i, j int) { list[i], list[j] = list[j], list[i] })
	for range w.r.Intn(3) {
		at := w.r.Intn(len(list) + 1)
		list = slices.Insert(list, at, w.pick(fields(pool+" X self n"+strconv.Itoa(w.r.Intn(99)))))
	}
	if len(list) > 0 && w.r.Intn(2) == 0 {
		at := w.r.Intn(len(list))
		list = slices.Delete(list, at, at+1)
	}
	return strings.Join(list, " ")
}

// tighten lets there be about as much room as is needed for a reshape.
func (w *wild) tighten(name, own string) {
	w.k.Space().Collect()
	m := modelOf(w.world, name, own)
	words, oops := w.k.Space().Room()
	if m.mark = 0; m.foretell(false).Code != api.OK || m.words == words {
		return
	}
	a, b := max(words-m.words-3+w.r.Intn(8), 0), oops-m.oops+2
	if w.r.Intn(2) == 0 {
		a, b = words-m.words+20, max(oops-m.oops-3+w.r.Intn(6), 0)
	}
	if oops > b && words-a >= 2*(oops-b) {
		w.leave(a, b)
	}
}

// reshape is a reshape by both, with something in its way, or nothing.
func (w *wild) reshape() {
	w.t.Helper()
	name := w.name()
	own := w.own(name)
	switch w.r.Intn(20) {
	case 0:
		name = "Nope"
	case 1:
		name = "Array"
	}
	kept, open, h := len(w.k.Space().Kept()), false, w.k.Space().Heap()
	switch w.r.Intn(8) {
	case 0, 1:
		h.Mark(1 + w.r.Intn(30))
	case 2:
		w.few(w.r.Intn(2))
	case 3:
		open = w.k.Space().Begin() == api.OK
		h.Alloc(null, 3, api.FormatWords)
	case 4, 5:
		w.tighten(name, own)
	}
	w.litter("Object", w.r.Intn(3), 2)
	m := modelOf(w.world, name, own)
	want := m.foretell(open)
	if got := w.do(name, own); got != want {
		w.t.Fatalf("Do(%q, %q) = %+v, want %+v", name, own, got, want)
	}
	m.held()
	w.count[want.Code]++
	if e := w.k.Space().Commit(); (e == api.OK) != open {
		w.t.Fatalf("Commit = %d, where a bracket was open: %v", e, open)
	}
	h.Mark(0)
	w.few(200)
	w.k.Space().Drop(len(w.k.Space().Kept()) - kept)
}

// P21.1 to P21.4: all that there is, object by object, place by place, is what
// the chapter says, whatever lives, and whatever stands in the way.
func TestAsTheModel(t *testing.T) {
	r := rand.New(rand.NewSource(21))
	count := map[api.Errno]int{}
	for range 150 {
		w := wildOf(t, r, count)
		for range 8 {
			for range r.Intn(10) {
				w.step()
			}
			w.reshape()
		}
	}
	for _, e := range []api.Errno{
		api.OK, api.ErrClass, api.ErrKernel, api.ErrName, api.ErrDouble, api.ErrInherited, api.ErrBelow,
		api.ErrUnknown, api.ErrTwice, api.ErrPoint, api.ErrSymbols, api.ErrFull, api.ErrMarked,
	} {
		if count[e] < 5 {
			t.Errorf("the answer %d came %d times", e, count[e])
		}
	}
}
