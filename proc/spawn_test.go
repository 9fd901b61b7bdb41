package proc_test

import (
	"fmt"
	"slices"
	"strings"
	"testing"

	"kiln/api"
	"kiln/class"
	"kiln/method"
	"kiln/proc"
	"kiln/symbol"
)

// rich is a source with all that a spawning may allocate: two Strings, two
// Arrays, the Array of literals, the code, the source, the Method, the Context,
// the Process, the Array of processes.
const rich = "| a b | a := 'one' zork: #fresh. b := #(1 #(2) 'two'). ^b"

const richMakes = 11

// richWords is the room that it takes, as the first process.
const richWords = (2 + 1) + (2 + 1) + (2 + 1) + (2 + 3) + (2 + 2) + (2 + 21) + (2 + (len(rich)+3)/4) + (2 + 9) + (2 + 9 + 2 + 2) + (2 + 1) + (2 + 1)

// P19.2, M3: what is allocated, in its order, and how it is filled.
func TestSpawnMakes(t *testing.T) {
	w := begin(t)
	for round := range 3 {
		had := len(w.k.Space().Heap().State().Objects)
		was := w.cells()
		n := w.spawn(rich)
		made := w.k.Space().Heap().State().Objects[had:]
		var kinds []string
		for _, o := range made {
			c, _ := w.k.Info(int(o.Class / 4))
			kinds = append(kinds, fmt.Sprint(c.Name, len(o.Slots)))
		}
		want := []string{"String3", "Array1", "String3", "Array3", "Array2", "Array21", fmt.Sprint("String", len(rich)), "Method9", "Context13", "Process1", fmt.Sprint("Array", round+1)}
		if !slices.Equal(kinds, want) {
			t.Fatalf("made were %q, want %q", kinds, want)
		}
		m, c, p, all := made[7], made[8], made[9], made[10]
		x := api.ContextInfo{Sender: null, Method: obj(m.Oop), Receiver: null, Outer: null, Depth: 1, Temps: 2, Stack: 2}
		if got := w.info(c.Oop); got != x || w.at(c.Oop, api.ContextSlots) != null || w.at(c.Oop, api.ContextSlots+1) != null {
			t.Fatalf("the context is %+v, want %+v", got, x)
		}
		if i, e := method.Info(w.k, m.Oop); e != api.OK || i.Source != rich || i.Selector != "" || i.Class != api.UndefinedObject {
			t.Fatalf("the method is %+v, %d", i, e)
		}
		if p.Class != obj(api.Process) || p.Format != api.FormatWords || !slices.Equal(p.Slots, []api.Word{obj(c.Oop)}) {
			t.Fatalf("the process is %+v", p)
		}
		if all.Oop != w.array() || !slices.Equal(all.Slots, append(was, obj(p.Oop))) {
			t.Fatalf("the Array of processes is %+v, want %d and %d", all, was, p.Oop)
		}
		if w.object(n) != p.Oop || w.top(n) != c.Oop {
			t.Fatalf("the process %d is %d, its top context %d", n, w.object(n), w.top(n))
		}
	}
}

// P19.2: cells of processes that have ended or failed go on in the longer Array.
func TestSpawnKeepsCells(t *testing.T) {
	w := begin(t)
	for range 3 {
		w.spawn("^3")
		w.wantRun(w.spawn("^3"), 0, ended(0, num(3)))
		w.wantRun(w.spawn("nil ifTrue: [1]"), 0, failed(0, api.ErrBool))
	}
	c := w.cells()
	for i, x := range c {
		if i%3 == 1 && x != num(0) || i%3 == 2 && x != num(int(api.ErrBool)) || i%3 == 0 && x != obj(w.object(i+1)) {
			t.Fatalf("the cells are %d", c)
		}
	}
}

// P19.2: the faults are method.Doit's; nothing else has happened.
func TestSpawnFaults(t *testing.T) {
	w := begin(t)
	w.k.Space().Heap().Mark(50)
	for _, source := range []string{
		"^x", "(", "", "3 +", "'abc", "^zork foo: #bar", "foo ^3", "self := 3", "| a a | ", "| self | ", "P := 3", "G := Q", "^^3", "3 foo. ^4. 5",
		strings.Repeat("(", 25) + "1" + strings.Repeat(")", 25), "^'" + strings.Repeat("x", 257) + "'", strings.Repeat(" ", 4097), "^#fresh , nope", "\x00", "^\xff",
	} {
		twin := begin(t)
		_, want := method.Doit(twin.k, source)
		was := w.seen()
		if want.Code == api.OK {
			w.spawn(source)
			w.k.Space().Heap().Mark(50)
			continue
		}
		w.wantNoSpawn(source, want)
		if w.seen() != was {
			t.Fatalf("Spawn(%q), refused with %+v, has changed something", source, want)
		}
	}
	w.wantNoSpawn("^x", fault(api.ErrUnknown, 1))
	w.wantNoSpawn("(", fault(api.ErrSyntax, 1))
	w.wantNoSpawn(strings.Repeat(" ", 4097), fault(api.ErrLong, 4096))
}

// P19.2, M4: a mark hits at each allocation, and is used up; all else is as it was.
func TestSpawnMarks(t *testing.T) {
	for mark := 1; mark <= richMakes+3; mark++ {
		w := begin(t)
		w.spawn("^3")
		h := w.k.Space().Heap()
		was, room := w.reached(), w.room()
		had := len(h.All())
		h.Mark(mark)
		if mark > richMakes {
			w.spawn(rich)
			if h.Marked() != mark-richMakes {
				t.Fatalf("of the mark %d there is %d", mark, h.Marked())
			}
			continue
		}
		w.wantNoSpawn(rich, fault(api.ErrMarked, 0))
		if h.Marked() != 0 || len(h.All()) != had+mark-1 || w.room() != room {
			t.Fatalf("with the mark %d: it is %d, there are %d objects, room %d", mark, h.Marked(), len(h.All())-had, w.room())
		}
		if w.reached() != was {
			t.Fatalf("the mark %d has changed something", mark)
		}
		w.spawn(rich)
	}
}

// P19.2, M1, M4: it is taken just where there is room for all of it, whatever
// lies about; where it is refused the mark's count is given back.
func TestSpawnRooms(t *testing.T) {
	for _, littered := range []bool{false, true} {
		for words := 0; words <= richWords+1; words++ {
			w := beginIn(t, 1000, 100)
			w.leave(words, richMakes)
			w.wantRoom(richWords <= words, littered, "words", words)
		}
		for oops := 0; oops <= richMakes+1; oops++ {
			w := beginIn(t, 1000, 100)
			w.leave(richWords, oops)
			w.wantRoom(richMakes <= oops, littered, "oops", oops)
		}
	}
}

// wantRoom is a Spawn of rich that is taken, if it fits.
func (w *world) wantRoom(fits, littered bool, of string, n int) {
	w.t.Helper()
	if littered {
		w.litter()
	}
	h := w.k.Space().Heap()
	h.Mark(100)
	if fits {
		if w.spawn(rich); h.Marked() != 100-richMakes {
			w.t.Fatalf("with %d %s the mark is %d", n, of, h.Marked())
		}
		return
	}
	was, room := w.k.Symbols().All(), w.room()
	w.wantNoSpawn(rich, fault(api.ErrFull, 0))
	if h.Marked() != 100 || w.room() != room || !slices.Equal(w.k.Symbols().All(), was) {
		w.t.Fatalf("with %d %s, refused, something has changed; the mark is %d", n, of, h.Marked())
	}
}

// P19.2: one more process needs one more word; what the old Array took is free
// only behind it.
func TestSpawnRoomOfTheArray(t *testing.T) {
	for had := range 5 {
		need := (2 + 3) + (2 + 1) + (2 + 9) + (2 + 10) + (2 + 1) + (2 + had + 1)
		for words := need - 1; words <= need; words++ {
			w := beginIn(t, 2000, 200)
			for range had {
				w.spawn("^3")
			}
			w.leave(words, 50)
			if words < need {
				w.wantNoSpawn("^3", fault(api.ErrFull, 0))
			} else {
				w.spawn("^3")
			}
		}
	}
}

// M2: a collection between any two allocations takes nothing of what was made.
func TestSpawnCollects(t *testing.T) {
	for between := range richWords + 3 {
		w := beginIn(t, 2000, 200)
		w.method("String", "zork: a ^a")
		w.leave(richWords, 100)
		if v, _ := w.k.Space().Heap().Room(); between >= 2 && between <= v {
			if _, e := w.k.Space().Alloc(obj(api.Array), between-2, api.FormatWords); e != api.OK {
				t.Fatalf("Alloc = %d", e)
			}
		}
		n := w.spawn(rich)
		w.k.Space().Drop(len(w.k.Space().Kept()))
		r := w.run(n, 99)
		if c, _ := w.k.Of(r.Value); r.State != api.Ended || r.Used != 1 || c != api.Array {
			t.Fatalf("%+v", r)
		}
		if s := w.slots(int(r.Value / 4)); len(s) != 3 || s[0] != num(1) || len(w.slots(int(s[1]/4))) != 1 {
			t.Fatalf("its value is %d", s)
		}
	}
}

// P19.2: a collection behind it finds all of the process alive.
func TestSpawnIsReached(t *testing.T) {
	w := begin(t)
	n := w.spawn(rich)
	had := w.room()
	w.k.Space().Collect()
	if w.room() != had {
		t.Fatalf("of %d words of room there are %d", had, w.room())
	}
	w.wantState(n, api.Ready, api.OK)
	w.wantRun(n, 1, unknown(1, "zork:"))
}

// P19.2: the most processes; ErrCount comes ahead of what is wrong with a source.
func TestMostProcesses(t *testing.T) {
	w := begin(t)
	for n := 1; n <= api.MaxProcesses; n++ {
		if got, f := proc.Spawn(w.k, "^3"); got != n || f != (api.Fault{}) {
			t.Fatalf("Spawn = %d, %+v, want %d", got, f, n)
		}
		if r, e := proc.Run(w.k, w.b, n, 0); n%2 == 0 && (e != api.OK || r != ended(0, num(3))) {
			t.Fatalf("Run = %+v, %d", r, e)
		}
	}
	w.k.Space().Heap().Mark(1)
	was := w.seen()
	for _, source := range []string{"^3", "(", "^x", ""} {
		w.wantNoSpawn(source, fault(api.ErrCount, 0))
	}
	if w.seen() != was {
		t.Fatal("something has changed")
	}
	if proc.Count(w.k) != api.MaxProcesses {
		t.Fatalf("Count = %d", proc.Count(w.k))
	}
	w.wantNoProcess(api.MaxProcesses)
	w.wantNoProcess(api.MaxProcesses + 1)
}

// few is the world with so many symbols more, and no others.
func (w *world) few(more int) *world {
	w.t.Helper()
	all := w.k.Symbols().All()
	x, e := symbol.Load(all, len(all)+more)
	if e != api.OK {
		w.t.Fatalf("Load = %d", e)
	}
	k, e := class.Over(w.k.Space(), x)
	if e != api.OK {
		w.t.Fatalf("Over = %d", e)
	}
	return &world{w.t, k, w.b}
}

// P19.2: symbols that a source adds; a refused one gives them back.
func TestSpawnSymbols(t *testing.T) {
	source := "^#one foo: #two"
	w := begin(t)
	for more, want := range []api.Fault{fault(api.ErrSymbols, 1), fault(api.ErrSymbols, 11), fault(api.ErrSymbols, 6)} {
		small := w.few(more)
		was := small.seen()
		if small.wantNoSpawn(source, want); small.seen() != was {
			t.Fatalf("with %d symbols more something has changed", more)
		}
	}
	small := w.few(3)
	for mark := 1; mark <= 6; mark++ {
		w.k.Space().Heap().Mark(mark)
		small.wantNoSpawn(source, fault(api.ErrMarked, 0))
	}
	n := small.k.Symbols().Count()
	small.spawn(source)
	if all := small.k.Symbols().All()[n:]; !slices.Equal(all, []string{"one", "two", "foo:"}) {
		t.Fatalf("the symbols %q are added", all)
	}
}

// P19.2: the symbols that a process adds while it runs are not a spawning's: they stay.
func TestSpawnAfterRun(t *testing.T) {
	w := begin(t)
	w.spawn("^('ab' , 'cd') asSymbol")
	if r := w.run(1, 9); r.State != api.Ended {
		t.Fatalf("%+v", r)
	}
	w.k.Space().Heap().Mark(5)
	w.wantNoSpawn("^#more", fault(api.ErrMarked, 0))
	if _, there := w.k.Symbols().Find("abcd"); !there {
		t.Fatal("the symbol is gone")
	}
	if _, there := w.k.Symbols().Find("more"); there {
		t.Fatal("the symbol of a refused one is there")
	}
}

// P19.2: within a bracket nothing is collected; what is refused has left the Array as it was.
func TestSpawnInABracket(t *testing.T) {
	w := beginIn(t, 1000, 100)
	w.k.Space().Begin()
	n := 0
	for {
		got, f := proc.Spawn(w.k, "^3")
		if f.Code == api.ErrFull {
			break
		}
		if n++; got != n {
			t.Fatalf("Spawn = %d, %+v", got, f)
		}
	}
	if n < 5 || proc.Count(w.k) != n {
		t.Fatalf("%d were spawned, Count = %d", n, proc.Count(w.k))
	}
	w.k.Space().Commit()
	w.spawn("^3")
}

// P19.2: the least and the greatest context.
func TestSpawnSizes(t *testing.T) {
	w := begin(t)
	for _, c := range []struct {
		source       string
		temps, stack int
	}{
		{"^nil", 0, 1}, {"^3", 0, 1}, {"| a | ^a", 1, 1}, {"^1 + (2 + (3 + 4))", 0, 4}, {"1 to: 2 do: [:i | | j | j := i]", 2, 2},
		{"| a " + manyNames(31) + " | ^a", 32, 1},
		{"^[:a :b | | c | 1 + 2]", 0, 2},
	} {
		n := w.spawn(c.source)
		if x := w.info(w.top(n)); x.Temps != c.temps || x.Stack != c.stack || x.Pc != 0 || x.Start != 0 || x.Top != 0 {
			t.Fatalf("%q: %+v", c.source, x)
		}
	}
}

// manyNames is so many names, one behind the other.
func manyNames(n int) string {
	var list []string
	for i := range n {
		list = append(list, fmt.Sprint("t", i))
	}
	return strings.Join(list, " ")
}
