package kiln_test

import (
	"math"
	"testing"

	"kiln/api"
	"kiln/kiln"
)

// P25.1: there is a machine just where Boot has a kernel.
func TestNew(t *testing.T) {
	for _, c := range []struct {
		words, oops int
		e           api.Errno
	}{
		{160, 20, api.OK}, {160, 21, api.OK}, {161, 20, api.OK}, {api.MaxWords, api.MaxOops, api.OK}, {api.MaxWords, 20, api.OK}, {160, api.MaxOops, api.OK},
		{159, 20, api.ErrFull}, {160, 19, api.ErrFull}, {0, 0, api.ErrFull}, {api.MaxWords, 0, api.ErrFull}, {0, api.MaxOops, api.ErrFull},
		{-1, 20, api.ErrArg}, {160, -1, api.ErrArg}, {api.MaxWords + 1, 20, api.ErrArg}, {160, api.MaxOops + 1, api.ErrArg}, {0, -1, api.ErrArg},
		{math.MaxInt, math.MaxInt, api.ErrArg}, {math.MinInt, math.MinInt, api.ErrArg},
	} {
		m, e := kiln.New(c.words, c.oops)
		if e != c.e || (m != nil) != (e == api.OK) {
			t.Fatalf("P25.1: New(%d, %d) = %v, %d, want %d", c.words, c.oops, m != nil, e, c.e)
		}
		if e == api.OK {
			isNew(t, m, c.words-160, c.oops-20)
		}
	}
}

// isNew says that nothing is in a machine but a kernel.
func isNew(t *testing.T, m *kiln.Machine, words, oops int) {
	t.Helper()
	if v, w := m.Room(); v != words || w != oops {
		t.Fatalf("P25.1: Room = %d, %d, want %d, %d", v, w, words, oops)
	}
	if s, e := m.Next(1); s != "" || e != api.ErrProcess || m.Saved() != "" || !m.Layouts() {
		t.Fatalf("P25.1: Next = %q, %d, Saved = %q", s, e, m.Saved())
	}
	answers(t, m, api.Act{Kind: api.ActInspect}, api.OK)
	answers(t, m, api.Act{Kind: api.ActLoad}, api.ErrImage)
	answers(t, m, runs(1, 0), api.ErrProcess)
	p := save(t, m)
	if p.mark != 0 || len(p.objects) != 21 || len(p.symbols) != 14 {
		t.Fatalf("P25.1: the mark %d, %d objects, %d symbols", p.mark, len(p.objects)-1, len(p.symbols))
	}
}

// P25.1: a machine that is not there, or that no call made.
func TestNothing(t *testing.T) {
	var none *kiln.Machine
	for _, m := range []*kiln.Machine{none, new(kiln.Machine)} {
		for kind := -2; kind < 16; kind++ {
			for _, a := range []api.Act{{Kind: kind}, {Kind: kind, Name: "P", Other: "Object", Names: []string{"x"}, Text: "^3", Number: 1, Fuel: 1}} {
				if x := m.Do(a); x != (api.Answer{Refusal: api.Refusal{Code: api.ErrNil}}) {
					t.Fatalf("P25.1: Do(%+v) = %+v", a, x)
				}
			}
		}
		words, oops := m.Room()
		if words != 0 || oops != 0 || m.Saved() != "" || m.Layouts() {
			t.Fatalf("P25.1: Room %d, %d, Saved %q, Layouts %v", words, oops, m.Saved(), m.Layouts())
		}
		for _, n := range []int{0, 1, -1, math.MaxInt} {
			if s, e := m.Next(n); s != "" || e != api.ErrNil {
				t.Fatalf("P25.1: Next = %q, %d", s, e)
			}
		}
	}
}

// R3, R5: two machines have nothing in common.
func TestTwoMachines(t *testing.T) {
	a, b, twin := begun(t, 3000, 300), begun(t, 3000, 300), begun(t, 3000, 300)
	for _, x := range []api.Act{
		defines("Q", "P", "z"), global("H"), lays("P", "sum ^y"), spawns("[true] whileTrue: [G := P new]"), runs(2, 50), reshapes("P", "y x"), marks(7), {Kind: api.ActSave}, removes("P", "sum"), {Kind: api.ActLoad},
	} {
		takes(t, a, x)
		told(t, b, "G = @1\n@1 P x=3 y=4\n")
	}
	if b.Saved() != "" {
		t.Fatal("R3: another machine's image is this one's last")
	}
	save(t, b)
	save(t, twin)
	if b.Saved() != twin.Saved() {
		t.Fatal("R3: what was done with one machine is seen in another")
	}
}
