package kiln_test

import (
	"fmt"
	"strings"
	"testing"

	"kiln/api"
)

// The limits of what a script makes: one past each is refused, and then the
// machine goes on as before.
func TestCounts(t *testing.T) {
	m := newMachine(t, 200000, 20000)
	for i := range api.MaxClasses - 14 {
		takes(t, m, defines(fmt.Sprintf("C%d", i), "Object", ""))
	}
	answers(t, m, defines("C", "Object", ""), api.ErrCount)
	for i := range api.MaxGlobals {
		takes(t, m, global(fmt.Sprintf("G%d", i)))
	}
	answers(t, m, global("G"), api.ErrCount)
	for i := range api.MaxMethods {
		takes(t, m, lays("C0", fmt.Sprintf("m%d ^%d", i, i)))
	}
	answers(t, m, lays("C0", "m ^3"), api.ErrCount)
	wants(t, m, lays("C0", "m0 ^'other'"), selected("m0"))
	takes(t, m, removes("C0", "m5"))
	wants(t, m, lays("C0", "m ^3"), selected("m"))
	for i := range api.MaxProcesses {
		wants(t, m, spawns("^3"), api.Answer{Number: i + 1})
		if i%2 == 0 {
			takes(t, m, runs(i+1, 0))
		}
	}
	answers(t, m, spawns("^3"), api.ErrCount)
	answers(t, m, spawns("("), api.ErrCount)
	takes(t, m, reshapes("C0", "a b"))
	save(t, m)
	other := loaded(t, m.Saved(), 160, 20)
	answers(t, other, spawns("^3"), api.ErrCount)
	answers(t, other, global("G"), api.ErrCount)
	answers(t, other, defines("C", "Object", ""), api.ErrCount)
	takes(t, other, runs(1024, 0))
}

// Fields: 32 of a class in all, with those above and below.
func TestFieldsOfAClass(t *testing.T) {
	m := newMachine(t, 6000, 800)
	names := ""
	for i := range 30 {
		names += fmt.Sprintf("f%d ", i)
	}
	takes(t, m, defines("P", "Object", names))
	answers(t, m, defines("Q", "P", "a b c"), api.ErrFields)
	takes(t, m, defines("Q", "P", "a b"))
	answers(t, m, reshapes("P", names+"c"), api.ErrFields)
	answers(t, m, reshapes("Q", "a b c"), api.ErrFields)
	takes(t, m, global("G"))
	takes(t, m, spawns("G := Q new. G instVarAt: 32 put: 7. G instVarAt: 1 put: 8"))
	takes(t, m, runs(1, 9))
	takes(t, m, reshapes("P", "f0"))
	told(t, m, "G = @1\n@1 Q f0=8 a=nil b=7\n")
}

// Symbols: 4096, of sources, of names, and of programs.
func TestSymbols(t *testing.T) {
	m := newMachine(t, 60000, 6000)
	takes(t, m, defines("P", "Object", "x y"))
	takes(t, m, spawns("1 to: 5000 do: [:i | i printString asSymbol]"))
	x := m.Do(runs(1, 1<<30))
	if x.Code != api.ErrSymbols || x.State != api.Failed {
		t.Fatalf("asSymbol: %+v", x)
	}
	if p := save(t, m); len(p.symbols) != api.MaxSymbols {
		t.Fatalf("there are %d symbols", len(p.symbols))
	}
	answers(t, m, defines("Q", "P", ""), api.ErrSymbols)
	answers(t, m, global("G"), api.ErrSymbols)
	wants(t, m, lays("P", "  foo ^x"), refusalAt(api.ErrSymbols, 2))
	wants(t, m, spawns("3 foo"), refusalAt(api.ErrSymbols, 2))
	answers(t, m, reshapes("P", "x y z"), api.ErrSymbols)
	takes(t, m, reshapes("P", "y x"))
	// What is there already may be named.
	wants(t, m, lays("P", "x ^y"), selected("x"))
	wants(t, m, spawns("^3 printString asSymbol"), api.Answer{Number: 2})
	wants(t, m, runs(2, 9), api.Answer{Number: 2, State: api.Ended, Used: 2, Text: "#'3'"})
}

// The nearest to the mark: the first allocation, and one that is far away.
func TestMarks(t *testing.T) {
	m := newMachine(t, 60000, 6000)
	takes(t, m, marks(3))
	takes(t, m, global("A"))
	takes(t, m, marks(1))
	answers(t, m, global("B"), api.ErrMarked)
	takes(t, m, global("B"))
	takes(t, m, marks(1<<30))
	takes(t, m, marks(2))
	takes(t, m, global("C"))
	answers(t, m, marks(-1), api.ErrArg)
	answers(t, m, global("D"), api.ErrMarked)
	takes(t, m, marks(1))
	takes(t, m, marks(0))
	takes(t, m, global("D"))
}

// The longest source, and one byte more; the deepest chain, and one more.
func TestLong(t *testing.T) {
	m := newMachine(t, 60000, 6000)
	source := "deep: n ^n < 1 ifTrue: [0] ifFalse: [1 + (self deep: n - 1)]"
	wants(t, m, lays("Object", source+strings.Repeat(" ", api.MaxSource-len(source))), selected("deep:"))
	wants(t, m, lays("Object", source+strings.Repeat(" ", api.MaxSource-len(source)+1)), refusalAt(api.ErrLong, api.MaxSource))
	takes(t, m, spawns("^self deep: 254"))
	wants(t, m, runs(1, 5000), api.Answer{Number: 1, State: api.Ended, Used: 255 + 255 + 254*2, Text: "254"})
	takes(t, m, spawns("^self deep: 255"))
	if x := m.Do(runs(2, 5000)); x.Code != api.ErrDeepRun || x.State != api.Failed {
		t.Fatalf("%+v", x)
	}
}

// A layout number goes up to 2^30 - 1: then a reshape is refused.
func TestLayoutNumbers(t *testing.T) {
	m := begun(t, 3000, 300)
	takes(t, m, removes("P", "sum"))
	takes(t, m, removes("P", "x:y:"))
	save(t, m)
	// The class's line: its class, its name 14, its superclass, own names, no methods, layout, number.
	was := "w 48 58 16 "
	i := strings.Index(m.Saved(), was)
	if i < 0 {
		t.Fatal("there is no class P")
	}
	old, _, _ := strings.Cut(m.Saved()[i:], "\n")
	for _, c := range []struct {
		n int
		e api.Errno
	}{{1<<30 - 2, api.OK}, {1<<30 - 1, api.ErrCount}} {
		fresh := strings.Replace(old, " 1 31", fmt.Sprintf(" %d 31", 2*c.n+1), 1)
		other := loaded(t, strings.Replace(m.Saved(), old, fresh, 1), 160, 20)
		answers(t, other, reshapes("P", "y x"), c.e)
		if c.e == api.OK {
			answers(t, other, reshapes("P", "x y"), api.ErrCount)
		}
		answers(t, other, reshapes("P", "x x"), api.ErrDouble)
	}
}
