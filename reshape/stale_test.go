package reshape_test

import (
	"testing"

	"kiln/api"
	"kiln/method"
	"kiln/proc"
)

// waiting is a world with a process that stands behind so many events.
func waiting(t *testing.T, source string, fuel int) *world {
	t.Helper()
	w := bare(t, 8000, 800)
	w.class("P", "Object", "x y")
	w.class("Q", "P", "z")
	w.class("S", "Object", "x")
	w.global("G")
	w.global("H")
	w.method("P", "sum ^x + y")
	w.method("P", "x: a y: b x := a. y := b")
	w.method("P", "block ^[x + y]")
	w.method("P", "each: b ^b value: x")
	w.method("Q", "z: c z := c. ^z + 1")
	w.method("Q", "asP ^super sum")
	w.method("S", "of: p ^p sum")
	w.method("Object", "ask: p ^p foo: 3 + 4")
	w.method("Object", "me ^(3 + 4) + 5")
	w.method("Object", "foo: n ^n + 1")
	w.answers("G := P new. H := Q new. G x: 1 y: 2. H x: 3 y: 4. ^H sum", num(7))
	if n, f := proc.Spawn(w.k, source); n != 2 || f.Code != api.OK {
		t.Fatalf("Spawn(%q) = %d, %+v", source, n, f)
	}
	if r, e := proc.Run(w.k, w.b, 2, fuel); r.State != api.Ready || r.Used != fuel || e != api.OK {
		t.Fatalf("%q: Run = %+v, %d", source, r, e)
	}
	return w
}

// P21.5: what waits in a method of the plan's classes is never run again; all
// else goes on, and comes to what it comes to without a reshape.
func TestProcesses(t *testing.T) {
	for _, c := range []struct {
		source string
		fuel   int
		class  string
		stale  bool
		want   api.Word
	}{
		{"^G sum", 0, "P", false, num(3)},
		{"^G sum", 1, "P", true, 0},
		{"^G sum", 1, "Q", false, num(3)},
		{"^G sum", 1, "S", false, num(3)},
		{"^H sum", 1, "P", true, 0},
		{"^H sum", 1, "Q", false, num(7)},
		{"^H z: 3", 1, "P", true, 0},
		{"^H z: 3", 1, "Q", true, 0},
		{"^H z: 3", 1, "S", false, num(4)},
		{"^H asP", 2, "Q", true, 0},
		{"^H asP", 2, "P", true, 0},
		{"^S new of: G", 2, "S", true, 0},
		{"^S new of: G", 2, "P", false, num(3)},
		{"^S new of: G", 3, "P", true, 0},
		{"^S new of: G", 3, "S", true, 0},
		{"^G me", 1, "P", false, num(12)},
		{"^G me", 2, "P", false, num(12)},
		{"^3 ask: H", 2, "P", false, num(8)},
		{"^G block value", 0, "P", false, num(3)},
		{"^G block value", 1, "P", true, 0},
		{"^G block value", 2, "P", true, 0},
		{"^G block value", 3, "P", true, 0},
		{"^G block value", 3, "Q", false, num(3)},
		{"^G each: [:a | a + 5]", 2, "P", true, 0},
		{"^G each: [:a | a + 5]", 3, "P", true, 0},
		{"^G each: [:a | a + 5]", 3, "S", false, num(6)},
	} {
		w := waiting(t, c.source, c.fuel)
		own := map[string]string{"P": "y new x", "Q": "new z", "S": "new x"}[c.class]
		w.wantDo(c.class, own)
		r, e := proc.Run(w.k, w.b, 2, 100)
		want := api.Ran{State: api.Ended, Used: r.Used, Value: c.want}
		if c.stale {
			want = api.Ran{State: api.Failed, Code: api.ErrStale}
		}
		// A block whose method is old is refused when it is activated.
		if c.source == "^G block value" && c.class == "P" && c.fuel == 2 {
			want.Used = 1
		}
		if r != want || e != api.OK {
			t.Errorf("%q behind %d events, then %s: %+v, %d, want %+v", c.source, c.fuel, c.class, r, e, want)
		}
		// A new one of the same source finds what it needs.
		if n, f := proc.Spawn(w.k, c.source); n != 3 || f.Code != api.OK {
			t.Fatalf("Spawn = %d, %+v", n, f)
		}
		if r, e := proc.Run(w.k, w.b, 3, 100); r.State != api.Ended || e != api.OK {
			t.Errorf("%q anew: %+v, %d", c.source, r, e)
		}
	}
}

// P21.4: behind a reshape that is refused a process goes on where it stands.
func TestProcessesGoOn(t *testing.T) {
	for fuel := range 3 {
		w := waiting(t, "^G block value", fuel)
		w.wantNotDo("P", "y", api.Refusal{Code: api.ErrUnknown, Class: "P", Selector: "block", At: 8})
		for k := 1; k < 17; k++ {
			w.k.Space().Heap().Mark(k)
			w.wantNotDo("P", "y new x", refused(api.ErrMarked))
		}
		if r, e := proc.Run(w.k, w.b, 2, 100); r.State != api.Ended || r.Value != num(3) || e != api.OK {
			t.Fatalf("Run = %+v, %d", r, e)
		}
	}
}

// P21.5: all methods that were compiled ahead of the commit are stale, those in
// no dictionary, too; of other classes none is.
func TestStaleMethods(t *testing.T) {
	w := waiting(t, "^G sum", 1)
	removed, replaced := w.method("P", "gone ^x"), w.method("Q", "other ^z")
	w.keep(removed)
	w.keep(replaced)
	w.b.Remove(w.named("P"), "gone")
	w.method("Q", "other ^x")
	loose := w.compiled("Q", "loose ^z")
	foreign := w.compiled("S", "loose ^x")
	object := w.compiled("Object", "loose ^self")
	old := map[string]int{}
	for _, s := range fields("sum x:y: block each:") {
		_, old[s] = w.info("P", s)
		w.keep(old[s])
	}
	w.wantDo("P", "y x")
	for _, m := range []int{removed, replaced, loose, old["sum"], old["x:y:"], old["block"], old["each:"]} {
		if !method.Stale(w.k, m) {
			t.Errorf("the method %d is not stale", m)
		}
	}
	for _, m := range []int{foreign, object} {
		if method.Stale(w.k, m) {
			t.Errorf("the method %d is stale", m)
		}
	}
	for _, class := range fields("P Q S Object") {
		for _, s := range w.b.Selectors(w.named(class)) {
			if _, m := w.info(class, s); method.Stale(w.k, m) {
				t.Errorf("%s of %s is stale", s, class)
			}
		}
	}
	// What was stale stays so.
	w.wantDo("P", "x y")
	if !method.Stale(w.k, loose) || !method.Stale(w.k, old["sum"]) {
		t.Error("a second reshape has made an old method good")
	}
}
