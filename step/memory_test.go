package step_test

import (
	"fmt"
	"slices"
	"strings"
	"testing"

	"kiln/api"
	"kiln/step"
)

// made is what one event of a process makes: of each object its class and how
// many slots it has, in the order of their places.
func (w *world) made(p int) []string {
	w.t.Helper()
	had := len(w.k.Space().Heap().State().Objects)
	if r := step.Go(w.k, w.b, p, 1); r.Used != 1 {
		w.t.Fatalf("Go(%d, 1) = %+v", p, r)
	}
	var list []string
	for _, o := range w.k.Space().Heap().State().Objects[had:] {
		c, _ := w.k.Info(int(o.Class / 4))
		list = append(list, fmt.Sprint(c.Name, len(o.Slots)))
	}
	return list
}

// P18.4, M3: what each event allocates, in its order.
func TestWhatIsMade(t *testing.T) {
	w := beginIn(t, 100000, 10000)
	w.method("P", "a: a b: b | c | c := a + b + 1. ^c")
	w.method("P", "nothing")
	w.method("P", "doesNotUnderstand: m | a b | ^m arguments size + 1")
	for _, c := range []struct {
		source string
		made   []string
	}{
		{"P new", []string{"P2"}},
		{"Object new", []string{"Object0"}},
		{"G nothing", []string{"Context10"}},
		{"G a: 1 b: 2", []string{"Context14"}},
		{"G zork", []string{"Message2", "Context14"}},
		{"G zork: 1", []string{"Array1", "Message2", "Context14"}},
		{"G zork: 1 zork: 2 zork: 3", []string{"Array3", "Message2", "Context14"}},
		{"[:a | ]", []string{"Block6"}},
		{"[:a :b | | c d | a + b]", []string{"Block6"}},
		{"3 printString", []string{"String1"}},
		{"Array new: 5", []string{"Array5"}},
		{"Array new: 0", nil},
		{"3 + 4", nil},
		{"3 foo", nil},
		{"3 // 0", nil},
		{"G == G", nil},
		{"[true] whileTrue: []", nil},
		{"1 to: 2 do: [:i | ]", nil},
	} {
		if r := step.Go(w.k, w.b, w.spawn("G := P new"), 9); r.State != api.Ended {
			t.Fatalf("%+v", r)
		}
		p := w.spawn(c.source)
		w.wantGo(p, 0, ready(0))
		if got := w.made(p); !slices.Equal(got, c.made) {
			t.Fatalf("%q has made %q, want %q", c.source, got, c.made)
		}
	}
	// A block's context has as many temporaries as its body has slots, and the method's stack.
	p := w.spawn("[:a :b | | c d e | 1] value: 1 + (2 + (3 + 4)) value: 2")
	w.wantGo(p, 4, ready(4))
	if got := w.made(p); !slices.Equal(got, []string{"Context19"}) {
		t.Fatalf("the activation has made %q", got)
	}
}

// P18.6: between two events nothing is allocated: neither by what ends nor by what returns.
func TestNothingBetween(t *testing.T) {
	w := begin(t)
	w.method("P", "one ^self two")
	w.method("P", "two ^[:a | x := a yourself. y := #(1 #(2) 'a'). ^G := x] value: 5")
	h := w.k.Space().Heap()
	for _, c := range []struct {
		source string
		ahead  int // the events that allocate
		value  api.Word
	}{
		{"G := #(1 #(2) 'a'). true ifTrue: [| a | a := G]. false and: [nil]. 1 to: 1 do: [:i | G := i]. ^G", 0, num(1)},
		{"| n | n := 0. [n < 20] whileTrue: [n := n + 1. 1 to: n do: [:i | G := P]]. ^n", 0, num(20)},
		{"^P new one", 5, num(5)},
	} {
		p := w.spawn(c.source)
		if c.ahead > 0 {
			w.wantGo(p, c.ahead, ready(c.ahead))
		}
		had := len(h.All())
		h.Mark(1)
		if r := step.Go(w.k, w.b, p, 999); r.State != api.Ended || r.Value != c.value || h.Marked() != 1 || len(h.All()) != had {
			t.Fatalf("%q: %+v; the mark is %d, of %d objects there are %d", c.source, r, h.Marked(), had, len(h.All()))
		}
		h.Mark(0)
	}
}

// P18.3, P18.4: a mark hits at each allocation, and is used up; what was allocated ahead of it counts.
func TestMarks(t *testing.T) {
	for _, c := range []struct {
		source string
		ahead  int // events ahead of the one that allocates
		makes  int
	}{
		{"^G sum", 0, 1}, {"^[3] value", 0, 1}, {"^[3] value", 1, 1}, {"^G zork", 0, 2}, {"^G zork: 4 zork: 5", 0, 3}, {"^P new", 0, 1},
	} {
		for mark := 1; mark <= c.makes+1; mark++ {
			w := begin(t)
			w.method("P", "doesNotUnderstand: m ^m yourself")
			if r := step.Go(w.k, w.b, w.spawn("G := P new"), 9); r.State != api.Ended {
				t.Fatalf("%+v", r)
			}
			p := w.spawn(c.source)
			w.wantGo(p, c.ahead, ready(c.ahead))
			top := w.top(p)
			was, x := w.stack(top), w.info(top)
			w.k.Space().Heap().Mark(mark)
			r := step.Go(w.k, w.b, p, 1)
			if mark > c.makes {
				if r.Used != 1 || r.Code == api.ErrMarked || w.k.Space().Heap().Marked() != 1 {
					t.Fatalf("%q with the mark %d: %+v, the mark is %d", c.source, mark, r, w.k.Space().Heap().Marked())
				}
				continue
			}
			if r != failed(1, api.ErrMarked) || w.k.Space().Heap().Marked() != 0 || w.top(p) != top {
				t.Fatalf("%q with the mark %d: %+v, the mark is %d", c.source, mark, r, w.k.Space().Heap().Marked())
			}
			wantSlots(t, c.source, w.stack(top), was...)
			if now := w.info(top); now.Pc <= x.Pc || now.Sender != x.Sender || now.Top != x.Top {
				t.Fatalf("%q: the context is %+v, was %+v", c.source, now, x)
			}
		}
	}
}

// M4: a process that fails is no refused act: the mark's count is not given back.
func TestMarkIsNotGivenBack(t *testing.T) {
	w := begin(t)
	p := w.spawn("P new. P new. 'new' , 'er'. 3 zork")
	w.k.Space().Heap().Mark(10)
	w.wantGo(p, 99, unknown(4, "zork"))
	if n := w.k.Space().Heap().Marked(); n != 7 {
		t.Fatalf("the mark is %d", n)
	}
	w.k.Space().Heap().Mark(0)
	w.method("P", "doesNotUnderstand: m ^1")
	p = w.spawn("^P new zork: 3")
	w.wantGo(p, 1, ready(1))
	w.k.Space().Heap().Mark(3)
	w.wantGo(p, 1, failed(1, api.ErrMarked))
	if n := w.k.Space().Heap().Marked(); n != 0 {
		t.Fatalf("the mark is %d", n)
	}
}

// leave lets just so much room be left behind a collection: the rest is taken
// by objects that are kept, of which the last one alone has slots.
func (w *world) leave(words, oops int) {
	w.t.Helper()
	s := w.k.Space()
	s.Collect()
	v, o := s.Room()
	more := o - oops
	for i := range more {
		n := 0
		if i == more-1 {
			n = v - words - 2*more
		}
		x, e := s.Alloc(obj(api.Array), n, api.FormatWords)
		if e != api.OK {
			w.t.Fatalf("Alloc(%d) = %d", n, e)
		}
		s.Keep(x)
	}
	if v, o = s.Room(); v != words || o != oops {
		w.t.Fatalf("there are %d, %d, not %d, %d", v, o, words, oops)
	}
}

// P18.3, P18.4, M1: an event goes well just where there is room for all that it makes.
func TestRoom(t *testing.T) {
	for _, c := range []struct {
		source      string
		ahead       int
		words, oops int
	}{
		{"^G sum", 0, 13, 1}, {"^[3] value", 0, 8, 1}, {"^[3] value", 1, 12, 1}, {"^G zork", 0, 4 + 13, 2}, {"^G zork: 4 zork: 5", 0, 4 + 4 + 13, 3}, {"^P new", 0, 4, 1},
	} {
		for _, room := range [][2]int{{c.words, c.oops}, {c.words - 1, c.oops + 5}, {c.words + 5, c.oops - 1}, {0, 0}, {c.words + 1, c.oops + 1}} {
			for _, littered := range []int{0, 1} {
				w := beginIn(t, 2000, 400)
				w.method("P", "doesNotUnderstand: m ^m yourself")
				if r := step.Go(w.k, w.b, w.spawn("G := P new"), 9); r.State != api.Ended {
					t.Fatalf("%+v", r)
				}
				p := w.spawn(c.source)
				w.wantGo(p, c.ahead, ready(c.ahead))
				w.leave(room[0], room[1])
				// What is nobody's is in nobody's way.
				for e := api.OK; e == api.OK && littered == 1; {
					_, e = w.k.Space().Heap().Alloc(4, 0, 0)
				}
				r := step.Go(w.k, w.b, p, 1)
				if fits := room[0] >= c.words && room[1] >= c.oops; fits == (r.Code == api.ErrFull) || r.Used != 1 {
					t.Fatalf("%q in %d: %+v", c.source, room, r)
				}
			}
		}
	}
}

// P18.6, M2: what a program comes to does not hang on the room, as long as there is enough,
// nor on who keeps the process: nobody does here.
func TestTight(t *testing.T) {
	source := "| a | a := Array new: 3. 1 to: 40 do: [:i | a at: i \\\\ 3 + 1 put: (P new x: i; yourself). ([:b | b printString , i printString] value: i) size. G := G + (i zork: i with: a) + (a at: 1) xx]. ^G"
	run := func(words, oops int) (api.Ran, int) {
		w := beginIn(t, words, oops)
		w.method("P", "x: n x := n")
		w.method("P", "xx x isNil ifTrue: [^0]. ^x")
		w.method("UndefinedObject", "xx ^0")
		w.method("Integer", "doesNotUnderstand: m ^(m arguments at: 1) + m selector size + (m arguments at: 2) size")
		w.k.SetValue(0, num(0))
		p := w.spawn(source)
		w.k.Space().Drop(len(w.k.Space().Kept()))
		// A process that nothing keeps is gone with a collection behind the call.
		least, total := 1<<30, api.Ran{}
		for total.State != api.Ended && total.State != api.Failed {
			r := step.Go(w.k, w.b, p, 7)
			w.keep(p)
			v, _ := w.k.Space().Room()
			w.k.Space().Drop(1)
			least = min(least, v)
			total = api.Ran{State: r.State, Used: total.Used + r.Used, Value: r.Value, Code: r.Code, Selector: r.Selector}
		}
		return total, least
	}
	want, least := run(20000, 2000)
	if want.State != api.Ended {
		t.Fatalf("%+v", want)
	}
	for spare := range 60 {
		words := 20000 - least + spare
		got, _ := run(words, 2000)
		if got != want && got.Code != api.ErrFull {
			t.Fatalf("in %d words: %+v, want %+v", words, got, want)
		}
		if got != want && spare == 59 {
			t.Fatalf("in %d words: %+v", words, got)
		}
	}
}

// M2: receiver and arguments are live till the send has its context: each of
// them is new, and named by the stack alone.
func TestLiveTillTheContext(t *testing.T) {
	w := beginIn(t, 3000, 300)
	w.method("P", "a: a b: b ^a size * 10 + b size")
	w.method("P", "doesNotUnderstand: m ^(m arguments at: 1) size * 10 + (m arguments at: 2) size")
	for _, send := range []string{"P new a: 'ab' , 'c' b: 'd' , 'e'", "P new a: 'ab' , 'c' c: 'd' , 'e'", "[:a :b | a size * 10 + b size] value: 'ab' , 'c' value: 'd' , 'e'"} {
		p := w.spawn("^" + send)
		w.wantGo(p, 3, ready(3))
		words := 13 + 2
		if strings.Contains(send, "c:") {
			words += 4 + 4
		}
		kept := len(w.k.Space().Kept())
		w.leave(words+40, 20)
		for e := api.OK; e == api.OK; {
			_, e = w.k.Space().Heap().Alloc(4, 0, 0)
		}
		r := step.Go(w.k, w.b, p, 99)
		if r.State != api.Ended || r.Value != num(32) {
			t.Fatalf("%q: %+v", send, r)
		}
		w.k.Space().Drop(len(w.k.Space().Kept()) - kept)
	}
}

// P18.4: the space's stack is as it was, also where it fails; where it is full each call ends.
func TestStackOfTheSpace(t *testing.T) {
	w := begin(t)
	w.method("P", "doesNotUnderstand: m ^m yourself")
	s := w.k.Space()
	for mark := range 8 {
		p := w.spawn("P new zork: 3. ^[4] value")
		was := s.Kept()
		s.Heap().Mark(mark)
		for range 8 {
			step.Go(w.k, w.b, p, 1)
			if !slices.Equal(s.Kept(), was) {
				t.Fatalf("with the mark %d: %d are kept, %d were", mark, len(s.Kept()), len(was))
			}
		}
	}
	s.Heap().Mark(0)
	for spare := range 4 {
		p := w.spawn("P new zork: 3. ^[4] value")
		n := api.MaxKept - len(s.Kept()) - spare
		s.Keep(slices.Repeat([]api.Word{num(1)}, n)...)
		kept := len(s.Kept())
		step.Go(w.k, w.b, p, 9)
		if step.Next(w.k, p); len(s.Kept()) != kept {
			t.Fatalf("%d are kept, %d were", len(s.Kept()), kept)
		}
		s.Drop(n)
	}
}

// M1: within a bracket nothing is collected.
func TestBracket(t *testing.T) {
	w := beginIn(t, 1000, 100)
	p := w.spawn("1 to: 1000 do: [:i | P new]")
	w.k.Space().Begin()
	r := step.Go(w.k, w.b, p, 5000)
	if r.State != api.Failed || r.Code != api.ErrFull {
		t.Fatalf("%+v", r)
	}
	w.k.Space().Commit()
	p = w.spawn("1 to: 1000 do: [:i | P new]")
	w.wantGo(p, 5000, ended(1999, null))
}
