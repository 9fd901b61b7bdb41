package reshape_test

import (
	"fmt"
	"slices"
	"strings"
	"testing"

	"kiln/api"
	"kiln/class"
	"kiln/dict"
	"kiln/proc"
	"kiln/reshape"
)

// P21.1: without a kernel or a book, ahead of all else.
func TestNil(t *testing.T) {
	w, _ := chapter(t)
	was := w.seen()
	for _, own := range [][]string{nil, {}, {"x", "y"}, {"X"}, {"y"}, {"x", "y", "z"}} {
		for _, name := range []string{"P", "Object", "Nope", ""} {
			for _, r := range []api.Refusal{
				reshape.Do(nil, nil, name, own),
				reshape.Do(nil, w.b, name, own),
				reshape.Do(w.k, nil, name, own),
				reshape.Do(new(class.Kernel), w.b, name, own),
			} {
				if r != refused(api.ErrNil) {
					t.Fatalf("Do(%q, %q) = %+v", name, own, r)
				}
			}
		}
	}
	if w.seen() != was {
		t.Fatal("something has changed")
	}
}

// family is P (x y) with the method sum, Q below it (z) with twice, R below Q
// (u v) without a method, S beside them (x) with one; of each class one
// instance is kept.
func family(t *testing.T) *world {
	t.Helper()
	w := bare(t, 6000, 600)
	w.class("P", "Object", "x y")
	w.class("S", "Object", "x")
	w.class("Q", "P", "z")
	w.class("R", "Q", "u v")
	w.global("G")
	w.method("P", "sum ^x + y")
	w.method("P", "at: i ^#(1 'a' #(#b)) at: i + x")
	w.method("S", "x ^x")
	w.method("Q", "twice ^z + x")
	for _, name := range fields("R P Q S P") {
		list, _ := w.k.Fields(w.named(name))
		var slots []api.Word
		for i := range list {
			slots = append(slots, num(10*w.k.Count()+i))
		}
		w.keep(w.instance(name, slots...))
	}
	return w
}

// hinder lets all that can stand in the way of a reshape behind the checks do so.
func (w *world) hinder() {
	w.few(0)
	w.leave(0, 0)
	w.k.Space().Heap().Mark(1)
	w.k.Space().Begin()
}

// P21.1: what plan.Make refuses is refused ahead of methods and memory; nothing
// at all is done, not even a collection.
func TestPlanRefuses(t *testing.T) {
	for _, c := range []struct {
		name, own string
		want      api.Errno
	}{
		{"Nope", "x", api.ErrClass}, {"", "", api.ErrClass}, {"p", "", api.ErrClass}, {"P ", "", api.ErrClass}, {"G", "", api.ErrClass},
		{"Object", "X X", api.ErrKernel}, {"Message", "a", api.ErrKernel}, {"Class", "", api.ErrKernel},
		{"P", "y X y", api.ErrName}, {"P", "y self", api.ErrName}, {"P", "1a", api.ErrName}, {"P", "a_b", api.ErrName},
		{"P", strings.Repeat("a", 33), api.ErrName}, {"P", "true", api.ErrName},
		{"P", "y y X", api.ErrDouble}, {"P", "z z", api.ErrDouble},
		{"Q", "w x X", api.ErrInherited}, {"R", "z", api.ErrInherited}, {"R", "y", api.ErrInherited},
		{"P", "z", api.ErrBelow}, {"P", "x y v", api.ErrBelow}, {"Q", "v", api.ErrBelow}, {"P", "z " + numbered("n", 40), api.ErrBelow},
		{"P", numbered("n", 30), api.ErrFields}, {"S", numbered("n", 33), api.ErrFields}, {"R", numbered("n", 30), api.ErrFields},
	} {
		for _, hindered := range []bool{false, true} {
			w := family(t)
			if hindered {
				w.hinder()
			}
			w.litter("P", 3, 2)
			was := w.seen()
			w.wantNotDo(c.name, c.own, refused(c.want))
			if w.seen() != was {
				t.Fatalf("Do(%q, %q) has changed something", c.name, c.own)
			}
		}
	}
}

// P21.1: no change is no reshape: nothing is done, whatever would stand in its
// way, and the cache is not flushed.
func TestNoChange(t *testing.T) {
	for _, hindered := range []bool{false, true} {
		w := family(t)
		// It would not compile.
		w.k.Symbols().Add("foo")
		w.b.Put(w.named("P"), "foo", api.Empty)
		if hindered {
			w.hinder()
		}
		w.litter("P", 3, 2)
		sum, _ := w.k.Symbols().Find("sum")
		w.b.Lookup(w.named("Q"), sum)
		was, hits := w.seen(), w.b.Hits()
		for name, own := range map[string]string{"P": "x y", "Q": "z", "R": "u v", "S": "x"} {
			w.wantDo(name, own)
		}
		w.b.Lookup(w.named("Q"), sum)
		if w.seen() != was || w.b.Hits() != hits+1 {
			t.Fatalf("something has changed; Hits = %d, were %d", w.b.Hits(), hits)
		}
	}
}

// P21.1: a class without names stays so.
func TestNoChangeOfNone(t *testing.T) {
	w, _ := chapter(t)
	w.class("E", "Object", "")
	was := w.seen()
	w.wantDo("E", "")
	if r := reshape.Do(w.k, w.b, "E", []string{}); r != (api.Refusal{}) || w.seen() != was {
		t.Fatalf("Do = %+v", r)
	}
	w.wantFields("E", "", 0)
}

// P21.1: the layout numbers' end, of the class or of a descendant.
func TestLayoutsEnd(t *testing.T) {
	for _, name := range fields("P Q R") {
		w := family(t)
		w.put(w.named(name), api.ClassLayout, num(api.MaxCount))
		was := w.seen()
		w.wantNotDo("P", "y x", refused(api.ErrCount))
		w.wantDo("P", "x y")
		if w.seen() != was {
			t.Fatal("something has changed")
		}
		w.put(w.named(name), api.ClassLayout, num(api.MaxCount-1))
		w.wantDo("P", "y x")
		if n, _ := w.k.Layout(w.named(name)); n != api.MaxCount {
			t.Fatalf("the layout number is %d", n)
		}
		w.wantNotDo("P", "x y", refused(api.ErrCount))
		w.wantDo("S", "y x")
	}
}

// P21.2, 1: the first method that does not compile, by classes and selectors,
// ahead of all that could stand in the way behind it.
func TestFirstFault(t *testing.T) {
	for _, c := range []struct {
		class, source string
		want          api.Refusal
	}{
		{"R", "first ^x", api.Refusal{Code: api.ErrUnknown, Class: "R", Selector: "first", At: 7}},
		{"R", "zero | w | ^z", api.Refusal{Code: api.ErrTwice, Class: "R", Selector: "zero", At: 7}},
		{"R", "do: w do: v2 ^z", api.Refusal{Code: api.ErrTwice, Class: "R", Selector: "do:do:", At: 4}},
		{"R", "+ a ^[:w | w]", api.Refusal{Code: api.ErrTwice, Class: "R", Selector: "+", At: 7}},
		{"Q", "zoo ^x", api.Refusal{Code: api.ErrUnknown, Class: "Q", Selector: "zoo", At: 5}},
		{"Q", "* a x := a", api.Refusal{Code: api.ErrUnknown, Class: "Q", Selector: "*", At: 4}},
		{"P", "sum2 ^x", api.Refusal{Code: api.ErrUnknown, Class: "P", Selector: "sum2", At: 6}},
		{"P", "sum ^y + x", api.Refusal{Code: api.ErrUnknown, Class: "P", Selector: "sum", At: 9}},
		{"P", "sul: y2 ^w2 + x", api.Refusal{Code: api.ErrUnknown, Class: "P", Selector: "sul:", At: 14}},
	} {
		w := bare(t, 6000, 600)
		w.class("P", "Object", "x y w2")
		w.class("S", "Object", "x")
		w.class("Q", "P", "z")
		w.class("R", "Q", "u v")
		w.method("S", "aaa ^x")
		w.method("P", "yes ^y")
		w.method("Q", "yes ^z")
		for _, row := range []struct{ class, source string }{
			{"P", "sum3 ^x"}, {"Q", "zoom ^x"}, {"R", "zoom ^x"},
		} {
			if row.class >= c.class {
				w.method(row.class, row.source)
			}
		}
		w.method(c.class, c.source)
		for _, hindered := range []bool{false, true} {
			if hindered {
				w.hinder()
			}
			w.litter("P", 3, 3)
			was := w.seen()
			w.wantNotDo("P", "y w w2", c.want)
			if w.seen() != was {
				t.Fatalf("%q has changed something", c.source)
			}
		}
	}
}

// P21.2, 1: what lies in a dictionary and is no method does not compile.
func TestNoMethod(t *testing.T) {
	w, o := chapter(t)
	w.k.Symbols().Add("foo")
	w.b.Put(w.named("P"), "foo", o)
	w.wantNotDo("P", "y x", api.Refusal{Code: api.ErrArg, Class: "P", Selector: "foo"})
}

// P21.2, 2: a bracket of the caller's stays open, with what was allocated in it.
func TestOpenBracket(t *testing.T) {
	w := family(t)
	w.few(0)
	w.leave(10, 2)
	w.litter("P", 1, 2)
	s := w.k.Space()
	if e := s.Begin(); e != api.OK {
		t.Fatalf("Begin = %d", e)
	}
	behind := w.seen()
	w.litter("P", 1, 2)
	s.Heap().Mark(1)
	was := w.seen()
	w.wantNotDo("P", "y x new", refused(api.ErrPoint))
	if w.seen() != was {
		t.Fatal("something has changed")
	}
	s.Heap().Mark(0)
	if e := s.Abort(); e != api.OK || w.seen() != behind {
		t.Fatalf("Abort = %d", e)
	}
	if e := s.Abort(); e != api.ErrPoint {
		t.Fatalf("Abort = %d", e)
	}
}

// P21.2: behind each answer no bracket is open but the caller's.
func TestNoBracketIsLeft(t *testing.T) {
	w := family(t)
	for _, c := range []struct {
		name, own string
		mark      int
	}{
		{"P", "y x", 0}, {"P", "y x", 0}, {"P", "x y", 1}, {"P", "x y new", 7}, {"P", "y", 0}, {"Nope", "", 0}, {"Q", "", 0},
	} {
		w.k.Space().Heap().Mark(c.mark)
		w.do(c.name, c.own)
		if e := w.k.Space().Commit(); e != api.ErrPoint {
			t.Fatalf("behind Do(%q, %q) Commit answers %d", c.name, c.own, e)
		}
		w.k.Space().Heap().Mark(0)
	}
}

// P21.2, 2: the symbols are added in order, ahead of all allocations; what is
// refused has given them back.
func TestSymbols(t *testing.T) {
	for _, c := range []struct {
		own  string
		more int
		want api.Errno
	}{
		{"y x new", 0, api.ErrSymbols}, {"new y x", 0, api.ErrSymbols}, {"one two x y", 1, api.ErrSymbols},
		{"y x", 0, api.OK}, {"y x new", 1, api.OK}, {"one two x y", 2, api.OK}, {"y x sum", 0, api.OK},
	} {
		w := family(t)
		w.few(c.more)
		all := w.k.Symbols().All()
		if c.want == api.OK {
			w.wantDo("P", c.own)
			for _, s := range fields(c.own) {
				if !slices.Contains(all, s) {
					all = append(all, s)
				}
			}
			if now := w.k.Symbols().All(); !slices.Equal(now, all) {
				t.Fatalf("the symbols are %q, want %q", now, all)
			}
			continue
		}
		w.k.Space().Heap().Mark(1)
		w.wantNotDo("P", c.own, refused(c.want))
		w.k.Space().Heap().Mark(0)
		w.leave(0, 0)
		w.wantNotDo("P", c.own, refused(c.want))
	}
}

// P21.2, P21.4: whichever allocation is marked, nothing has changed; where none
// is left to hit, the mark has gone on.
func TestMarks(t *testing.T) {
	// Names; sum, at: and their Array; twice and its Array; instances of P, Q, R.
	const count = 1 + 5 + 3 + 2 + 1 + 1
	w := family(t)
	for k := 1; k <= count; k++ {
		w.litter("P", k%3, 2)
		w.k.Space().Heap().Mark(k)
		w.wantNotDo("P", "new y other x", refused(api.ErrMarked))
	}
	w.k.Space().Heap().Mark(count + 7)
	w.wantNotDo("P", "y", api.Refusal{Code: api.ErrUnknown, Class: "P", Selector: "at:", At: 30})
	w.wantDo("P", "new y other x")
	if m := w.k.Space().Heap().Marked(); m != 7 {
		t.Fatalf("the mark is %d", m)
	}
	w.wantFields("R", "new y other x z u v", 1)
}

// P21.2, P21.4: for want of a single word, or of a single oop, nothing has
// changed, and the mark's count is what it was; with just enough it is taken.
func TestFull(t *testing.T) {
	w := family(t)
	w.k.Space().Collect()
	words, oops := w.k.Space().Heap().Room()
	w.wantDo("P", "new y other x")
	// The four old bodies are freed; their words lie idle, below the new ones.
	behindWords, behindOops := w.k.Space().Heap().Room()
	needWords, needOops := words-behindWords, oops-behindOops+4
	for less := needWords; less >= 0; less-- {
		w := family(t)
		w.leave(needWords-less, needOops+3)
		w.k.Space().Heap().Mark(1000)
		if less == 0 {
			w.wantDo("P", "new y other x")
			continue
		}
		w.wantNotDo("P", "new y other x", refused(api.ErrFull))
	}
	for less := needOops; less >= 0; less-- {
		w := family(t)
		w.leave(needWords+3, needOops-less)
		w.k.Space().Heap().Mark(1000)
		if less == 0 {
			w.wantDo("P", "new y other x")
			continue
		}
		w.wantNotDo("P", "new y other x", refused(api.ErrFull))
	}
}

// P21.4: every later call answers as if a refused reshape had not been asked.
func TestAsIfNotAsked(t *testing.T) {
	story := func(asked bool) string {
		w := family(t)
		var told []any
		ask := func() {
			if !asked {
				// What a collection does is not seen but in the oops that come next.
				w.k.Space().Collect()
				return
			}
			w.do("P", "y")
			w.do("Nope", "y")
			for k := range 13 {
				w.k.Space().Heap().Mark(k + 1)
				if r := w.do("P", "new"+fmt.Sprint(len(told))+" y x"); r.Code == api.OK {
					t.Fatalf("with the mark %d it is taken", k+1)
				}
				w.k.Space().Heap().Mark(0)
			}
		}
		tell := func(list ...any) { told = append(told, fmt.Sprint(list...)) }
		ask()
		n, f := proc.Spawn(w.k, "G := Q new. G foo: 3. ^G twice")
		tell(n, f)
		ask()
		for fuel := range 4 {
			r, e := proc.Run(w.k, w.b, n, fuel)
			tell(r, e)
			ask()
		}
		c, e := w.k.Define("T", "R", fields("a t7"))
		tell(c, e)
		ask()
		tell(w.do("Q", "z z2"))
		ask()
		w.method("T", "foo: i z2 := i + t7. ^#foo")
		tell(w.k.Space().Room())
		tell(w.reached())
		return fmt.Sprint(told)
	}
	if plain, asked := story(false), story(true); plain != asked {
		t.Fatalf("without being asked:\n%s\nwith:\n%s", plain, asked)
	}
}

// P21.6: the book of another kernel, and one that no call made, are not to
// bring the kernel into disorder.
func TestOtherBooks(t *testing.T) {
	for i := range 2 {
		w, o := chapter(t)
		other, _ := chapter(t)
		other.method("P", "more ^x")
		book := []*dict.Book{other.b, new(dict.Book)}[i]
		was := other.seen()
		if r := reshape.Do(w.k, book, "P", fields("y z x")); r != (api.Refusal{}) {
			t.Fatalf("Do = %+v", r)
		}
		w.b.Flush()
		w.wantSlots(o, "P", num(2), null, num(1))
		w.answers("^G sum", num(3))
		if other.seen() != was {
			t.Fatal("the other kernel has changed")
		}
	}
}
