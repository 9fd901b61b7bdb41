package kiln_test

import (
	"math"
	"strings"
	"testing"

	"kiln/api"
	"kiln/kiln"
)

// P25.3: whatever is looked at, however often, ahead of any act: nothing that
// comes later is another thing.
func TestLookingChangesNothing(t *testing.T) {
	stories(t, 300, 60, 60, func(_ int64, s *story) {
		s.again("P25.3", teller{ahead: func(m *kiln.Machine, i int) *kiln.Machine {
			words, oops := m.Room()
			saved := m.Saved()
			for n := -1; n < 12; n++ {
				m.Next(n)
			}
			if v, w := m.Room(); v != words || w != oops || m.Saved() != saved || !m.Layouts() {
				t.Fatalf("P25.3: Room is %d, %d, and then %d, %d", words, oops, v, w)
			}
			return m
		}})
	})
}

// P25.3: what stands ahead of a process, event by event.
func TestNext(t *testing.T) {
	m := begun(t, 6000, 800)
	takes(t, m, lays("P", "up ^super isNil"))
	process := 1
	for _, c := range []struct{ source, all string }{
		{"^3", ""}, {"", ""}, {"nil ifTrue: [3]", ""},
		{"^3 + 4", "send +"}, {"G sum. G up", "send sum|send +|send up|super isNil"}, {"^[:a | a] value: 3", "block|send value:"},
		{"1 to: 3 do: [:i | ]", "jump|jump"}, {"super foo: 3 bar: 4", "super foo:bar:"}, {"#(1 2) at: 1 put: (3 max: 4)", "send max:|send at:put:"},
		{"| n | n := 0. [n < 1] whileTrue: [n := n + 1]", "send <|send +|jump|send <"}, {"[[] value] value", "block|send value|block|send value"},
	} {
		process++
		takes(t, m, spawns(c.source))
		first := ""
		if strings.HasPrefix(c.all, "block") {
			first = "block"
		}
		if s, e := m.Next(process); s != first || e != api.OK {
			t.Fatalf("P25.3: %q: at its beginning Next = %q, %d, want %q", c.source, s, e, first)
		}
		x := m.Do(runs(process, 0))
		var all []string
		for ; x.State == api.Ready; x = m.Do(runs(process, 1)) {
			s, e := m.Next(process)
			if again, _ := m.Next(process); again != s || e != api.OK {
				t.Fatalf("P25.3: Next = %q, %d, and then %q", s, e, again)
			}
			all = append(all, s)
		}
		if strings.Join(all, "|") != c.all {
			t.Fatalf("P25.3: %q: %q, want %q", c.source, all, c.all)
		}
		wantState(t, m, process, x.State)
	}
}

// P25.3: of no process, of none that is ready.
func TestNextOfNone(t *testing.T) {
	m := begun(t, 3000, 300)
	takes(t, m, spawns("3 foo"))
	takes(t, m, spawns("3 foo"))
	m.Do(runs(2, 9))
	for _, n := range []int{1, 2, 0, -1, 4, math.MaxInt, math.MinInt} {
		if s, e := m.Next(n); s != "" || e != api.ErrProcess {
			t.Fatalf("P25.3: Next(%d) = %q, %d", n, s, e)
		}
	}
	if s, e := m.Next(3); s != "" || e != api.OK {
		t.Fatalf("P25.3: Next(3) = %q, %d", s, e)
	}
}

// P25.3: Room, as acts take it and let it go.
func TestRoom(t *testing.T) {
	m := newMachine(t, 1000, 100)
	want := func(words, oops int) {
		t.Helper()
		if v, w := m.Room(); v != words || w != oops {
			t.Fatalf("P25.3: Room = %d, %d, want %d, %d", v, w, words, oops)
		}
	}
	want(840, 80)
	takes(t, m, global("G"))
	want(836, 79)
	takes(t, m, defines("P", "Object", "x"))
	want(836-3-9-1, 77)
	// The text, the Array of it, the code, the source, the Method, the Context, the Process, the Array of it.
	takes(t, m, spawns("G := 'abcd'"))
	want(823-3-3-9-5-11-12-3-3, 69)
	// The text is all that is left; of processes their Array.
	takes(t, m, runs(1, 0))
	want(823-3-3, 75)
	takes(t, m, spawns("G := nil"))
	takes(t, m, runs(2, 0))
	want(823-4, 76)
	takes(t, m, api.Act{Kind: api.ActCollect})
	want(823-4, 76)
}

// P25.3: Saved is "" till something was saved.
func TestSaved(t *testing.T) {
	m := begun(t, 3000, 300)
	if m.Saved() != "" {
		t.Fatalf("P25.3: Saved = %q", m.Saved())
	}
	takes(t, m, api.Act{Kind: api.ActSave})
	text := m.Saved()
	if !strings.HasPrefix(text, "kiln image 1\nroom 3000 300 0\nsymbols ") || !strings.HasSuffix(text, "\nend\n") {
		t.Fatalf("P25.3: Saved = %.60q", text)
	}
	other := loaded(t, text, 160, 20)
	takes(t, other, api.Act{Kind: api.ActSave})
	if other.Saved() != text {
		t.Fatal("P25.13: what is loaded and saved is another image")
	}
}
