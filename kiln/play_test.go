package kiln_test

import (
	"strings"
	"testing"

	"kiln/api"
	"kiln/kiln"
	"kiln/script"
)

// plays says what the log of the acts in a log is.
func playsLog(t *testing.T, what, log string) {
	t.Helper()
	text := "room 6000 800\n"
	for _, s := range strings.SplitAfter(log, "\n") {
		if strings.HasPrefix(s, "> ") {
			text += s[2:]
		}
	}
	if got := kiln.Play(text); got != log {
		t.Errorf("%s: the log is\n%s\nwant\n%s", what, got, log)
	}
}

// log is lines, each ended.
func log(lines ...string) string { return strings.Join(lines, "\n") + "\n" }

// first is what the first examples of the whole begin with.
func first() string {
	return log("> class =P =Object =x =y", "answer 0 15 0 0 0 = =", "> global =G", "answer 0 0 0 0 0 = =",
		"> method =P =x:%20a%20y:%20b%20x%20:%3d%20a.%20y%20:%3d%20b", "answer 0 0 0 0 0 = =x:y:", "> method =P =sum%20^x%20+%20y", "answer 0 0 0 0 0 = =sum",
		"> spawn =G%20:%3d%20P%20new.%20G%20x:%203%20y:%204", "answer 0 1 0 0 0 = =", "> run 1 9", "answer 0 1 2 2 0 = =", ". nil")
}

// The ten examples of the whole.
func TestExamples(t *testing.T) {
	inspected := log("> inspect", "answer 0 0 0 0 0 = =", ". G = @1", ". @1 P x=3 y=4")
	stands := log("> spawn =^G%20sum", "answer 0 2 0 0 0 = =", "> run 2 1", "answer 0 2 1 1 0 = =")
	playsLog(t, "example 1", first()+inspected+stands+log("> run 2 1", "answer 0 2 2 1 0 = =", ". 7", "> run 2 1", "answer 190 0 0 0 0 = ="))
	playsLog(t, "example 2", first()+stands+log("> reshape =P =y =z =x", "answer 0 0 0 0 0 = =", "> inspect", "answer 0 0 0 0 0 = =", ". G = @1", ". @1 P y=4 z=nil x=3",
		"> run 2 9", "answer 183 2 3 0 0 = =", "> spawn =^G%20sum", "answer 0 3 0 0 0 = =", "> run 3 9", "answer 0 3 2 2 0 = =", ". 7"))
	playsLog(t, "example 3", first()+log("> reshape =P =y", "answer 74 0 0 0 5 =P =sum", "> reshape =P =x =x", "answer 134 0 0 0 0 = =", "> reshape =Object", "answer 132 0 0 0 0 = =", "> reshape =Nope", "answer 130 0 0 0 0 = =")+inspected)
	playsLog(t, "example 4", first()+log("> mark 1", "answer 0 0 0 0 0 = =", "> reshape =P =y =x", "answer 24 0 0 0 0 = =")+inspected+log("> reshape =P =y =x", "answer 0 0 0 0 0 = =", "> inspect", "answer 0 0 0 0 0 = =", ". G = @1", ". @1 P y=4 x=3"))
	playsLog(t, "example 5", first()+log("> spawn =G%20foo", "answer 0 2 0 0 0 = =", "> run 2 9", "answer 180 2 3 1 0 = =foo", "> spawn =^7%20%2f%2f%200", "answer 0 3 0 0 0 = =", "> run 3 9", "answer 11 3 3 1 0 = =",
		"> spawn =^3%20+%20nil", "answer 0 4 0 0 0 = =", "> run 4 0", "answer 0 4 1 0 0 = =", "> run 4 5", "answer 170 4 3 1 0 = ="))
	playsLog(t, "example 7", first()+stands+log("> load =", "answer 230 0 0 0 0 = ="))
	playsLog(t, "example 8", first()+log("> method =P =foo%20^q", "answer 74 0 0 0 5 = =", "> method =Class =foo", "answer 132 0 0 0 0 = =", "> spawn =(", "answer 71 0 0 0 1 = ="))
	for text, want := range map[string]string{
		"room 160 20\ninspect": "> inspect\nanswer 0 0 0 0 0 = =\n", "room 159 20": "refused 0 23\n", "": "refused 0 240\n", "room 1000 100\nrun 1": "refused 2 243\n",
	} {
		if got := kiln.Play(text); got != want {
			t.Errorf("examples 9, 10: Play(%q) = %q, want %q", text, got, want)
		}
	}
}

// Example 6: the marks of a reshape.
func TestExample6(t *testing.T) {
	m := begun(t, 6000, 800)
	save(t, m)
	before := m.Saved()
	for k := 1; k <= 7; k++ {
		takes(t, m, marks(k))
		answers(t, m, reshapes("P", "y new x"), api.ErrMarked)
		if save(t, m); m.Saved() != before {
			t.Fatalf("example 6: with the mark %d something has changed", k)
		}
	}
	takes(t, m, marks(8))
	takes(t, m, reshapes("P", "y new x"))
}

// Example 7: a process that waits goes on in another machine.
func TestExample7(t *testing.T) {
	m := begun(t, 6000, 800)
	takes(t, m, spawns("^G sum"))
	wants(t, m, runs(2, 1), api.Answer{Number: 2, State: api.Ready, Used: 1})
	save(t, m)
	for _, room := range [][2]int{{160, 20}, {6000, 800}, {api.MaxWords, api.MaxOops}} {
		other := loaded(t, m.Saved(), room[0], room[1])
		if s, e := other.Next(2); s != "send +" || e != api.OK {
			t.Fatalf("example 7: Next = %q, %d", s, e)
		}
		wants(t, other, runs(2, 1), api.Answer{Number: 2, State: api.Ended, Used: 1, Text: "7"})
	}
	wants(t, m, runs(2, 1), api.Answer{Number: 2, State: api.Ended, Used: 1, Text: "7"})
}

// P25.4: a text that is no play, or whose room may not be, is told by one line.
func TestPlayRefused(t *testing.T) {
	long := strings.Repeat("#", script.MaxLine+1)
	for _, c := range []struct{ text, want string }{
		{"", "refused 0 240"}, {"\n\n# no\n", "refused 0 240"}, {"collect", "refused 1 240"}, {"\nrun 1 2\nroom 1 2", "refused 2 240"},
		{"room", "refused 1 243"}, {"room 1", "refused 1 243"}, {"room 1 2 3", "refused 1 243"}, {"room 1 x", "refused 1 244"}, {"room 01 2", "refused 1 244"},
		{"room 1000 100\nnothing", "refused 2 242"}, {"room 1000 100\n\nrun 1", "refused 3 243"}, {"room 1000 100\nrun 1 =", "refused 2 244"}, {"room 1000 100\nglobal G", "refused 2 244"}, {"room 1000 100\nglobal =%47", "refused 2 244"},
		{"room 1000 100\n" + long, "refused 2 241"}, {"room 1 2\nroom 1 2", "refused 2 242"}, {"room 1000 100" + strings.Repeat("\ncollect", 20000), "refused 20001 246"},
		{"room 0 0", "refused 0 23"}, {"room 159 20", "refused 0 23"}, {"room 160 19", "refused 0 23"}, {"room -1 20", "refused 0 1"}, {"room 1048577 20", "refused 0 1"}, {"room 1000 65537\nrun 1 1", "refused 0 1"},
		{"room -1 20\nrun", "refused 2 243"}, // the text is looked at first
	} {
		if got := kiln.Play(c.text); got != c.want+"\n" {
			t.Errorf("P25.4: Play(%.60q) = %q, want %q", c.text, got, c.want)
		}
	}
}

// P25.4: of a play without acts the log is empty; lines that say nothing are passed over.
func TestPlayNothing(t *testing.T) {
	for _, text := range []string{"room 160 20", "room 160 20\n", "# a\n\nroom 160 20\n# b\n\n"} {
		if got := kiln.Play(text); got != "" {
			t.Errorf("P25.4: Play(%q) = %q", text, got)
		}
	}
	if got := kiln.Play("#\nroom 200 30\n\n# more\ncollect\n\n"); got != "> collect\nanswer 0 0 0 0 0 = =\n" {
		t.Errorf("P25.4: the log is %q", got)
	}
}

// P25.4: the log of scripts at random is what a machine answers, line by line.
func TestPlays(t *testing.T) {
	stories(t, 400, 60, 60, func(_ int64, s *story) {
		var acts []api.Act
		var want strings.Builder
		m := newMachine(t, s.words, s.oops)
		for _, a := range s.acts {
			text, e := script.PrintAct(a)
			if e != api.OK {
				continue // it cannot stand in a text
			}
			acts = append(acts, a)
			want.WriteString("> " + text + "\n" + script.Tell(m.Do(a)))
		}
		text, e := script.Print(api.Play{Words: s.words, Oops: s.oops, Acts: acts})
		if e != api.OK {
			t.Fatalf("Print = %d", e)
		}
		if got := kiln.Play(text); got != want.String() {
			t.Fatalf("P25.4: the log is\n%s\nwant\n%s", got, want.String())
		}
	})
}

// P25.4: what is told in several lines stands so in the log, byte for byte.
func TestPlayTellsLines(t *testing.T) {
	playsLog(t, "P25.4", log("> global =A", "answer 0 0 0 0 0 = =", "> global =B", "answer 0 1 0 0 0 = =", "> inspect", "answer 0 0 0 0 0 = =", ". A = nil", ". B = nil",
		"> spawn =^%27a%0a%00%ff%27", "answer 0 1 0 0 0 = =", "> run 1 0", "answer 0 1 2 0 0 = =", `. 'a\x0a\x00\xff'`,
		"> spawn =3%20with:%204", "answer 0 2 0 0 0 = =", "> run 2 5", "answer 180 2 3 1 0 = =with:", "> method =Object =at:%20a%20foo:%20b", "answer 0 0 0 0 0 = =at:foo:",
		"> save", saveLine(t), "> remove =Object =at:foo:", "answer 0 0 0 0 0 = =", "> load =", "answer 0 0 0 0 0 = =", "> mark -1", "answer 1 0 0 0 0 = =", "> collect", "answer 0 0 0 0 0 = ="))
}

// saveLine is what the save above answers.
func saveLine(t *testing.T) string {
	t.Helper()
	m := newMachine(t, 6000, 800)
	for _, a := range []api.Act{global("A"), global("B"), spawns("^'a\n\x00\xff'"), runs(1, 0), spawns("3 with: 4"), runs(2, 5), lays("Object", "at: a foo: b")} {
		m.Do(a)
	}
	return strings.TrimSuffix(script.Tell(m.Do(api.Act{Kind: api.ActSave})), "\n")
}
