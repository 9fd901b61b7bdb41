package kiln_test

import (
	"testing"

	"kiln/api"
	"kiln/kiln"
)

// P25.11: a run fails by ErrStale without an event just if the process stands on
// something stale; else it does so only where a block is activated.
func TestStale(t *testing.T) {
	came := map[string]int{}
	for seed := range int64(200) {
		m, w := newMachine(t, 20000, 3000), newAuthor(1100+seed)
		for i := range len(begin()) + 60 {
			a := w.turn(i)
			if i > len(begin()) && w.Intn(6) == 0 {
				a = spawns(w.one("H := G blk", "^H value: 3", "^3 + (H value: 4)", "G wait: 30", "G := P new", "P new each: [:k | G sum]"))
			}
			is := false
			if a.Kind == api.ActRun {
				p := save(t, m)
				top := p.top(a.Number)
				is = top > 0 && p.standsOnStale(top)
			}
			x := m.Do(a)
			w.learn(a, x, m.Saved())
			if a.Kind == api.ActRun && x.State > 0 {
				wantStale(t, m, a, x, is)
				came[name(is, x)]++
			}
		}
	}
	for _, s := range []string{"stale", "fresh", "block"} {
		if came[s] < 5 {
			t.Errorf("few runs were so: %v", came)
		}
	}
}

func name(is bool, x api.Answer) string {
	switch {
	case is:
		return "stale"
	case x.Code == api.ErrStale:
		return "block"
	}
	return "fresh"
}

func wantStale(t *testing.T, m *kiln.Machine, a api.Act, x api.Answer, is bool) {
	t.Helper()
	failed := x.Code == api.ErrStale && x.Used == 0
	if failed != is || is && x != (api.Answer{Refusal: api.Refusal{Code: api.ErrStale}, Number: a.Number, State: api.Failed}) {
		t.Fatalf("P25.11: %s of one that stands on something stale (%v): %+v", line(a), is, x)
	}
	if _, e := m.Next(a.Number); is && e != api.ErrProcess {
		t.Fatalf("P25.11: one that has failed is ready: %d", e)
	}
}

// P25.11: which processes a reshape makes stale.
func TestWhichAreStale(t *testing.T) {
	for _, c := range []struct {
		source string
		fuel   int  // ahead of the reshape
		stale  bool // at the first pick behind it
		next   string
	}{
		{"^G sum", 0, false, "send sum"},                    // it is not in it yet
		{"^G sum", 1, true, "send +"},                       // the top context
		{"^G wait: 3", 1, true, "send step:"},               // likewise
		{"^G twice: [3 + 4]", 3, true, "send +"},            // a block of the doit, called by a method of P
		{"^G blk value: 3", 3, true, "send +"},              // a block whose home is over
		{"^G blk value: 3", 2, false, "send value:"},        // it is not in the block yet: the block is refused
		{"^(G blk value: 3) + (G sum)", 6, false, "send +"}, // it was in both, and is so no more
		{"^3 with: G", 1, false, "send yourself"},           // a method of Object
		{"^G it", 0, false, "send it"},
		{"^R new other", 2, false, "send yourself"}, // another class
		{"^Q new own", 2, true, "send yourself"},    // a class below
		{"^Q new up", 2, true, "super sum"},
		{"^Q new up", 3, true, "send +"},
		{"^[G sum] value", 3, true, "send +"},
		{"^[:k | [k sum] value] value: G", 2, false, "block"},
		{"| n | n := 0. [n < 9] whileTrue: [n := n + 1]. ^G", 6, false, "send <"},
	} {
		m := waiting(t, c.source, c.fuel)
		if next, e := m.Next(2); next != c.next && c.fuel > 0 || e != api.OK {
			t.Fatalf("P25.3: %q: Next = %q, %d, want %q", c.source, next, e, c.next)
		}
		takes(t, m, reshapes("P", "y z x"))
		next, e := m.Next(2)
		if c.stale && next != "" || !c.stale && c.fuel > 0 && next != c.next || e != api.OK {
			t.Fatalf("P25.3: %q: behind the reshape Next = %q, %d", c.source, next, e)
		}
		for _, fuel := range []int{0, 1, 99} {
			twin := waiting(t, c.source, c.fuel)
			takes(t, twin, reshapes("P", "y z x"))
			x := twin.Do(runs(2, fuel))
			if (x.Code == api.ErrStale && x.Used == 0) != c.stale {
				t.Fatalf("P25.11: %q: %+v", c.source, x)
			}
			if c.stale {
				answers(t, twin, runs(2, fuel), api.ErrProcess)
			}
		}
	}
}

// waiting is a machine whose process 2 has done so many events of a source.
func waiting(t *testing.T, source string, fuel int) *kiln.Machine {
	t.Helper()
	m := begun(t, 6000, 800)
	for _, a := range []api.Act{
		lays("P", "step: k ^x + k"), lays("P", "wait: n 1 to: n do: [:i | self step: i]"), lays("P", "twice: b ^b value"), lays("P", "blk ^[:k | k + x]"),
		lays("Object", "with: a ^a yourself"), lays("Object", "it ^self yourself"),
		defines("R", "Object", "u"), lays("R", "other ^u yourself"), defines("Q", "P", "w"), lays("Q", "own ^w yourself"), lays("Q", "up ^super sum"),
		spawns(source),
	} {
		takes(t, m, a)
	}
	if fuel > 0 {
		wants(t, m, runs(2, fuel), api.Answer{Number: 2, State: api.Ready, Used: fuel})
	}
	return m
}

// P25.11: a block whose home's method is stale fails whoever activates it,
// behind whatever it did; other blocks do not.
func TestStaleBlocks(t *testing.T) {
	m := begun(t, 6000, 800)
	for _, a := range []api.Act{
		global("H"), global("I"), lays("P", "blk ^[:k | k]"), spawns("H := G blk. I := [:k | k]"), runs(2, 9),
		spawns("^3 + (H value: 4)"), runs(3, 0), reshapes("P", "y x"), spawns("^(I value: 3) + (H value: 4)"), spawns("^I value: 5"), spawns("^H value"), spawns("^H numArgs"),
	} {
		takes(t, m, a)
	}
	wants(t, m, runs(3, 9), api.Answer{Refusal: api.Refusal{Code: api.ErrStale}, Number: 3, State: api.Failed, Used: 1})
	wants(t, m, runs(4, 9), api.Answer{Refusal: api.Refusal{Code: api.ErrStale}, Number: 4, State: api.Failed, Used: 2})
	wants(t, m, runs(5, 9), api.Answer{Number: 5, State: api.Ended, Used: 1, Text: "5"})
	wants(t, m, runs(6, 9), api.Answer{Refusal: api.Refusal{Code: api.ErrPrim}, Number: 6, State: api.Failed, Used: 1})
	wants(t, m, runs(7, 9), api.Answer{Number: 7, State: api.Ended, Used: 1, Text: "1"})
}

// P25.11: a method that was taken out of its class, or another one's place, is
// stale by a reshape, too, and not by that alone.
func TestStaleOutOfDictionaries(t *testing.T) {
	for _, way := range []api.Act{removes("P", "wait:"), lays("P", "wait: n ^n")} {
		for _, shaped := range []bool{false, true} {
			m := waiting(t, "^G wait: 3", 1)
			takes(t, m, way)
			want := api.Answer{Number: 2, State: api.Ended, Used: 8, Text: "a P"}
			if shaped {
				takes(t, m, reshapes("P", "y x"))
				want = api.Answer{Refusal: api.Refusal{Code: api.ErrStale}, Number: 2, State: api.Failed}
			}
			wants(t, m, runs(2, 99), want)
		}
	}
}

// P25.11: a reshape that changes nothing, or is refused, makes nothing stale.
func TestNotStale(t *testing.T) {
	for _, a := range []api.Act{reshapes("P", "x y"), reshapes("P", "x"), reshapes("P", "x x"), reshapes("Q", "q"), reshapes("R", "v u"), defines("S", "P", "s")} {
		m := waiting(t, "^G wait: 3", 1)
		m.Do(a)
		wants(t, m, runs(2, 99), api.Answer{Number: 2, State: api.Ended, Used: 8, Text: "a P"})
	}
}
