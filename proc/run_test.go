package proc_test

import (
	"fmt"
	"math"
	"math/rand"
	"strings"
	"testing"

	"kiln/api"
	"kiln/class"
	"kiln/dict"
	"kiln/proc"
)

// lively is a world with methods that wait, go deep, fail and hand out blocks.
func lively(t *testing.T, words, oops int) *world {
	t.Helper()
	w := beginIn(t, words, oops)
	w.class("Q", "P", "y")
	w.global("H")
	w.method("P", "x ^x")
	w.method("P", "x: a x := a")
	w.method("P", "deep ^self deep")
	w.method("P", "wait [true] whileTrue: [x := 1]")
	w.method("P", "hands ^[:a | x := a. x]")
	w.method("P", "down: n n = 0 ifTrue: [^self zork]. ^[self down: n - 1] value")
	w.method("Q", "y ^[y := 3. self x: y. self wait] value")
	w.method("Q", "doesNotUnderstand: m ^m arguments size")
	w.method("Object", "stay [true] whileTrue: []")
	w.method("Object", "do: b ^b value")
	w.method("Object", "each: b 1 to: 5 do: [:i | b value: i]")
	w.k.Space().Collect()
	return w
}

// programs is what is run in such a world.
func programs() []string {
	return []string{
		"^3", "^3 + 4", "^P new x: 3; x", "1 to: 9 do: [:i | P new]. ^1 to: 0 do: [:i | ]",
		"| n | n := 0. [n < 5] whileTrue: [n := n + 1. G := [n]]. ^G value",
		"^Q new zork: 3 zork: 4", "^P new deep", "^([:a | [:b | a + b]] value: 3) value: 4", "^P new wait", "^Q new y", "^3 do: [Q new y]", "^P new stay",
		"G := P new hands. ^3 each: G", "H := [^5]. ^3 do: H", "^H value", "^G value: 4", "^nil foo", "nil ifTrue: [3]",
		"^('a' , 'b') asSymbol size // 0", "[true] whileTrue: [P new]", "^P new down: 5", "| a | a := Array new: 3. ^a at: 4", "^3 + nil",
		"[^7] value. ^8", "^3 each: [:i | G := [i]. i = 3 ifTrue: [^G]]",
	}
}

// P19.3: Run is what step.Go comes to; then a failed one's chain is cut, and the cell is the integer.
func TestRunIsGo(t *testing.T) {
	r := rand.New(rand.NewSource(19))
	came := map[string]int{}
	for _, room := range [][2]int{{4000, 400}, {150, 400}, {4000, 8}} {
		for _, source := range programs() {
			for _, mark := range []int{0, 1, 2, 5} {
				w, hand := lively(t, 6000, 600), lively(t, 6000, 600)
				for _, x := range []*world{w, hand} {
					x.spawn("H := [^5]. G := P new hands")
					x.run(1, 9)
					x.spawn(source)
					x.leave(room[0], room[1])
					x.k.Space().Heap().Mark(mark)
				}
				for range 1 + r.Intn(4) {
					fuel := r.Intn(100)
					got, e := proc.Run(w.k, w.b, 2, fuel)
					want, code := hand.runByHand(2, fuel)
					if got != want || e != code || w.seen() != hand.seen() {
						t.Fatalf("%q in %d with the mark %d: %+v, %d, want %+v, %d", source, room, mark, got, e, want, code)
					}
					came[fmt.Sprint(got.State, int(got.Code))]++
				}
			}
		}
	}
	for _, s := range []string{"1 0", "2 0", "3 180", "3 170", "3 11", "3 171", "3 181", "3 182", "3 23", "3 24"} {
		if came[s] == 0 {
			t.Errorf("nothing has come to %s: %v", s, came)
		}
	}
}

// P19.3: each error by which a process fails is told, and is the state then.
func TestFailures(t *testing.T) {
	for _, c := range []struct {
		source string
		used   int
		code   api.Errno
	}{
		{"^3 + nil", 1, api.ErrPrim}, {"^7 // 0", 1, api.ErrZero}, {"^(Array new: 2) at: 3", 2, api.ErrIndex}, {"nil ifTrue: [3]", 0, api.ErrBool},
		{"^H value", 1, api.ErrHome}, {"^P new deep", 257, api.ErrDeepRun}, {"^Array new: 500", 1, api.ErrFull}, {"^P new stay", 1, api.ErrMarked},
		{"1 to: nil do: [:i | ]", 0, api.ErrPrim},
	} {
		w := lively(t, 9000, 900)
		w.spawn("H := [^5]")
		w.run(1, 9)
		n := w.spawn(c.source)
		if c.code == api.ErrMarked {
			w.k.Space().Heap().Mark(1)
		}
		if c.code == api.ErrFull {
			w.leave(501, 800)
		}
		w.wantRun(n, 1<<40, failed(c.used, c.code))
		w.wantState(n, api.Failed, c.code)
	}
	w := lively(t, 9000, 900)
	w.wantRun(w.spawn("^P new zork: 3"), 9, unknown(2, "zork:"))
	w.wantState(1, api.Failed, api.ErrUnderstood)
	n := w.spawn("^'new' asSymbol")
	w.spawn("^'newer' asSymbol")
	small := w.few(0)
	small.b, _ = dict.New(small.k)
	if r := small.run(n, 9); r.State != api.Ended {
		t.Fatalf("%+v", r)
	}
	small.wantRun(n+1, 9, failed(1, api.ErrSymbols))
}

// P19.3: the order of errors, and the edges of fuel.
func TestRunRefused(t *testing.T) {
	w := begin(t)
	over, n := w.spawn("^3"), w.spawn("[true] whileTrue: []")
	w.wantRun(over, 0, ended(0, num(3)))
	some := []int{0, 1, -1, 1<<40 + 1, 1 << 40, math.MaxInt, math.MinInt}
	for _, process := range []int{over, 0, -1, 3, math.MaxInt, math.MinInt, math.MinInt + 1} {
		for _, fuel := range some {
			w.wantNoRun(process, fuel, api.ErrProcess)
			for _, c := range []struct {
				k *class.Kernel
				b *dict.Book
			}{{nil, w.b}, {w.k, nil}, {nil, nil}, {new(class.Kernel), w.b}} {
				if r, e := proc.Run(c.k, c.b, process, fuel); r != (api.Ran{}) || e != api.ErrNil {
					t.Fatalf("Run(%d, %d) = %+v, %d", process, fuel, r, e)
				}
			}
		}
	}
	w.wantRun(n, 0, ready(0))
	w.wantRun(n, 7, ready(7))
	n = w.spawn("^3 + 4")
	for _, fuel := range []int{-1, 1<<40 + 1, math.MaxInt, math.MinInt} {
		w.wantNoRun(n, fuel, api.ErrArg)
	}
	w.wantRun(n, 1<<40, ended(1, num(7)))
	// A stale one is refused for its fuel all the same.
	w.method("P", "wait [true] whileTrue: []")
	n = w.spawn("P new wait")
	w.wantRun(n, 5, ready(5))
	w.raise("P")
	w.wantNoRun(n, -1, api.ErrArg)
	w.wantNoRun(n, 1<<40+1, api.ErrArg)
	w.wantState(n, api.Ready, api.OK)
	w.wantRun(n, 1<<40, failed(0, api.ErrStale))
}

// alive is how many objects of a class are left behind a collection.
func (w *world) alive(class int) int {
	w.k.Space().Collect()
	n := 0
	for _, o := range w.k.Space().Heap().State().Objects {
		if o.Class == obj(class) {
			n++
		}
	}
	return n
}

// P19.3: of one that has ended or failed the kernel holds nothing, the value neither.
func TestNothingIsHeld(t *testing.T) {
	for _, c := range []struct {
		source string
		state  int
	}{
		{"^3", api.Ended}, {"^Array new: 500", api.Ended}, {"^P new x: (Array new: 500); yourself", api.Ended}, {"| a | a := Array new: 500. ^[a]", api.Ended},
		{"^[^Array new: 50] value", api.Ended}, {"| a | a := Array new: 500. ^a zork", api.Failed}, {"^P new deep", api.Failed}, {"^P new down: 9", api.Failed},
		{"| a | a := Array new: 500. nil ifTrue: [a]", api.Failed}, {"^#(1 'two') zork: [Array new: 30]", api.Failed},
	} {
		w := lively(t, 9000, 900)
		room, methods := w.room(), w.alive(api.Method)
		if r := w.run(w.spawn(c.source), 999); r.State != c.state {
			t.Fatalf("%q: %+v", c.source, r)
		}
		// The Array of processes takes three words now.
		if w.room() != room-3 || w.alive(api.Context) != 0 || w.alive(api.Process) != 0 || w.alive(api.Block) != 0 || w.alive(api.Method) != methods {
			t.Fatalf("%q: of %d words there are %d; %d contexts, %d processes", c.source, room, w.room(), w.alive(api.Context), w.alive(api.Process))
		}
	}
	// While it is ready, it holds what it stands on.
	w := lively(t, 9000, 900)
	n := w.spawn("| a | a := Array new: 500. ^P new wait")
	w.wantRun(n, 50, ready(50))
	if w.alive(api.Context) != 2 || w.alive(api.Process) != 1 || w.room() > 9000-500 {
		t.Fatalf("%d contexts, %d processes", w.alive(api.Context), w.alive(api.Process))
	}
	w.wantRun(n, 50, ready(50))
}

// P19.3: the value is there when Run answers, though nothing keeps it.
func TestValueIsThere(t *testing.T) {
	w := begin(t)
	r := w.run(w.spawn("^'ab' , 'cd'"), 9)
	if s := w.slots(int(r.Value / 4)); fmt.Sprint(s) != "[97 98 99 100]" {
		t.Fatalf("%+v: %d", r, s)
	}
	if w.k.Space().Collect(); len(w.slots(int(r.Value/4))) != 0 {
		t.Fatal("something keeps the value")
	}
}

// P19.3: a block holds the context in which it was written and its outers, and none that waited for it.
func TestBlocksHoldNoWaiters(t *testing.T) {
	for _, c := range []struct {
		class, method, source string
		fuel, contexts, state int
	}{
		{"P", "hold G := [x]. ^self zork", "| a | a := Array new: 3000. ^P new hold", 99, 1, api.Failed},
		{"P", "hold [:b | G := [b]. self zork] value: (Array new: 10)", "| a | a := Array new: 3000. ^P new hold", 99, 2, api.Failed},
		{"P", "hold [:b | [:c | G := [b]. c value] value: [self zork]] value: 4", "| a | a := Array new: 3000. [P new hold] value", 99, 3, api.Failed},
		{"P", "hold G := [x]. ^3", "| a | a := Array new: 3000. ^P new hold", 99, 1, api.Ended},
		{"P", "hold [:b | G := [b]. ^3] value: 4", "| a | a := Array new: 3000. ^P new hold", 99, 2, api.Ended},
		{"P", "hold G := [x]. [true] whileTrue: []", "| a | a := Array new: 3000. ^P new hold", 50, 2, api.Ready},
		{"Object", "hold G := [nil]. ^nil + 1", "| a | a := Array new: 3000. ^[[3 hold] value] value", 99, 1, api.Failed},
	} {
		w := begin(t)
		w.method(c.class, c.method)
		n := w.spawn(c.source)
		r := w.run(n, c.fuel)
		if r.State != c.state || w.alive(api.Context) != c.contexts {
			t.Fatalf("%q: %+v, %d contexts", c.method, r, w.alive(api.Context))
		}
		if held := w.room() < 20000-3000; held != (c.state == api.Ready) {
			t.Fatalf("%q: there are %d words", c.method, w.room())
		}
		if r.State != api.Ready {
			continue
		}
		// The same where it is found stale.
		w.raise(c.class)
		w.wantRun(n, 3, failed(0, api.ErrStale))
		if w.alive(api.Context) != 1 || w.room() < 20000-3000 {
			t.Fatalf("%q: %d contexts, %d words", c.method, w.alive(api.Context), w.room())
		}
	}
}

// P19.3: a block whose context was cut goes on by itself, but has no home to return from.
func TestBlocksOfFailed(t *testing.T) {
	w := begin(t)
	w.wantRun(w.spawn("| a | a := 5. G := [:b | b ifTrue: [^a]. a := a + 1]. ^3 zork"), 9, unknown(2, "zork"))
	w.wantRun(w.spawn("G value: false. ^G value: false"), 9, ended(4, num(7)))
	w.wantRun(w.spawn("G value: true. ^3"), 9, failed(1, api.ErrHome))
}

// P19.3: contexts of a failed one are cut from its top one on, all of them, and nothing else of them is changed.
func TestCut(t *testing.T) {
	for _, depth := range []int{1, 2, 17, 255, 256} {
		w := lively(t, 60000, 3000)
		n := w.spawn("^P new deep")
		if depth == 1 {
			w.wantRun(n, 0, ready(0))
		} else {
			w.wantRun(n, depth, ready(depth))
		}
		chain := w.chain(w.top(n))
		if len(chain) != depth {
			t.Fatalf("there are %d contexts, want %d", len(chain), depth)
		}
		var was [][]string
		for _, c := range chain {
			was = append(was, strings.Fields(strings.Trim(fmt.Sprint(w.slots(c)), "[]")))
		}
		w.raise("UndefinedObject")
		w.wantRun(n, 5, failed(0, api.ErrStale))
		for i, c := range chain {
			was[i][api.ContextSender] = "4"
			if now := strings.Fields(strings.Trim(fmt.Sprint(w.slots(c)), "[]")); fmt.Sprint(now) != fmt.Sprint(was[i]) {
				t.Fatalf("the context %d is %v, want %v", i, now, was[i])
			}
		}
	}
}
