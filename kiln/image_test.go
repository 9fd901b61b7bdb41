package kiln_test

import (
	"math/rand"
	"strings"
	"testing"

	"kiln/api"
	"kiln/kiln"
)

// P25.13: saved and loaded, ahead of any act, nothing that comes later is
// another thing: in the same machine, or in a new one of any room.
func TestImages(t *testing.T) {
	t.Parallel()
	stories(t, 5200, 60, 60, func(seed int64, s *story) {
		r := rand.New(rand.NewSource(seed))
		for _, n := range []int{1, 4} {
			s.again("P25.13", teller{ahead: func(m *kiln.Machine, _ int) *kiln.Machine {
				if r.Intn(n) > 0 {
					return m
				}
				save(t, m)
				text := m.Saved()
				if r.Intn(2) == 0 {
					return loaded(t, text, 160+r.Intn(3000), 20+r.Intn(300))
				}
				if x := m.Do(api.Act{Kind: api.ActLoad}); x != (api.Answer{}) {
					t.Fatalf("P25.13: Load = %+v", x)
				}
				if m.Saved() != text {
					t.Fatal("P25.2: behind a load another image is the last one")
				}
				return m
			}})
		}
	})
}

// P25.13: also in the midst of a process's run.
func TestImagesWithin(t *testing.T) {
	stories(t, 5300, 30, 60, func(seed int64, s *story) {
		r := rand.New(rand.NewSource(seed))
		s.again("P25.13", teller{do: func(m *kiln.Machine, a api.Act) api.Answer {
			return pieces(m, a, func(int) int {
				m.Do(api.Act{Kind: api.ActSave})
				m.Do(api.Act{Kind: api.ActLoad})
				return 1 + r.Intn(3)
			})
		}})
	})
}

// P25.13: a save alone changes nothing but what Saved tells.
func TestSaves(t *testing.T) {
	stories(t, 5400, 40, 60, func(_ int64, s *story) {
		s.again("P25.13", teller{ahead: func(m *kiln.Machine, _ int) *kiln.Machine {
			save(t, m)
			return m
		}})
	})
}

// P25.2: what was loaded is all that there is: the room too, and the mark.
func TestLoadTakesAll(t *testing.T) {
	a := begun(t, 3000, 300)
	a.Do(api.Act{Kind: api.ActMark, Number: 2})
	save(t, a)
	b := newMachine(t, 160, 20)
	takes(t, b, api.Act{Kind: api.ActLoad, Text: a.Saved()})
	if b.Saved() != "" {
		t.Fatal("P25.2: a text that was loaded is one that was saved")
	}
	answers(t, b, api.Act{Kind: api.ActLoad}, api.ErrImage)
	words, oops := a.Room()
	if v, w := b.Room(); v != words || w != oops {
		t.Fatalf("P25.2: the room is %d, %d, want %d, %d", v, w, words, oops)
	}
	answers(t, b, api.Act{Kind: api.ActClass, Name: "Z", Other: "Object", Names: []string{"a"}}, api.ErrMarked)
	takes(t, b, api.Act{Kind: api.ActClass, Name: "Z", Other: "Object", Names: []string{"a"}})
}

// P25.2: to load the last image is to go back to it, as often as one likes.
func TestLoadsTheLast(t *testing.T) {
	m := begun(t, 3000, 300)
	takes(t, m, api.Act{Kind: api.ActSave})
	text := m.Saved()
	for range 3 {
		takes(t, m, api.Act{Kind: api.ActSpawn, Text: "G := 7"})
		takes(t, m, api.Act{Kind: api.ActRun, Number: 2, Fuel: 3})
		takes(t, m, api.Act{Kind: api.ActReshape, Name: "P", Names: []string{"y", "x", "z"}})
		told(t, m, "G = 7\n")
		takes(t, m, api.Act{Kind: api.ActLoad})
		told(t, m, "G = @1\n@1 P x=3 y=4\n")
		answers(t, m, api.Act{Kind: api.ActRun, Number: 2, Fuel: 3}, api.ErrProcess)
		if m.Saved() != text {
			t.Fatal("P25.2: behind a load another image is the last one")
		}
	}
}

// P25.2: what is no image changes nothing.
func TestNoImage(t *testing.T) {
	m := begun(t, 3000, 300)
	answers(t, m, api.Act{Kind: api.ActLoad}, api.ErrImage)
	takes(t, m, api.Act{Kind: api.ActSave})
	text := m.Saved()
	for _, s := range []string{"x", " ", text + "\n", text[:len(text)-1], strings.Replace(text, "objects ", "objects 1", 1), strings.Replace(text, "room 3000", "room 159", 1), strings.Replace(text, "kiln image 1", "kiln image 2", 1)} {
		answers(t, m, api.Act{Kind: api.ActLoad, Text: s}, api.ErrImage)
		told(t, m, "G = @1\n@1 P x=3 y=4\n")
		if m.Saved() != text {
			t.Fatal("P25.2: behind a load that was refused another image is the last one")
		}
	}
	takes(t, m, api.Act{Kind: api.ActLoad})
}

// P25.13: what Load takes is safe, though nobody saved it: images that were
// changed by hand, a word here and there, are refused, or go on as others do.
func TestSpoiltImages(t *testing.T) {
	t.Parallel()
	taken := 0
	stories(t, 5600, 24, 40, func(seed int64, s *story) {
		r := rand.New(rand.NewSource(seed))
		for range 60 {
			text := spoiltText(r, s.end)
			m := newMachine(t, 300, 30)
			if m.Do(api.Act{Kind: api.ActLoad, Text: text}).Code != api.OK {
				continue
			}
			taken++
			goesOn(t, m, seed)
		}
	})
	if taken < 100 {
		t.Fatalf("few spoilt images were taken: %d", taken)
	}
}

// spoiltText is an image with some of its numbers changed.
func spoiltText(r *rand.Rand, text string) string {
	lines := strings.Split(text, "\n")
	for range 1 + r.Intn(2) {
		i := 3 + r.Intn(len(lines)-4)
		words := strings.Split(lines[i], " ")
		j := r.Intn(len(words))
		switch r.Intn(3) {
		case 0:
			words[j] = words[r.Intn(len(words))]
		case 1:
			words[j] = strings.Replace(words[j], "1", "3", 1)
		case 2:
			other := strings.Split(lines[3+r.Intn(len(lines)-4)], " ")
			words[j] = other[r.Intn(len(other))]
		}
		lines[i] = strings.Join(words, " ")
	}
	return strings.Join(lines, "\n")
}

// goesOn says that P25.10 to P25.13 hold of a machine that has loaded something.
func goesOn(t *testing.T, m *kiln.Machine, seed int64) {
	t.Helper()
	save(t, m)
	twin := loaded(t, m.Saved(), 160, 20)
	w := newAuthor(seed)
	w.classes, w.globals, w.spawned = []string{"P", "Q"}, []string{"G", "H"}, 9
	w.super["P"], w.own["P"] = "Object", []string{"x", "y"}
	for n := range 9 {
		w.ready[n+1] = true
	}
	for range 15 {
		a := w.act()
		if a.Kind == api.ActLoad || a.Kind == api.ActSave {
			continue
		}
		x := m.Do(a)
		if a.Kind == api.ActRun && x.State != api.Ready {
			delete(w.ready, a.Number)
		}
		if y := pieces(twin, a, func(int) int { return w.Intn(3) }); x != y {
			t.Fatalf("P25.13: %s: %+v, and of the twin %+v", line(a), x, y)
		}
		takes(t, twin, api.Act{Kind: api.ActSave})
		takes(t, twin, api.Act{Kind: api.ActLoad})
		if !m.Layouts() || !twin.Layouts() {
			t.Fatalf("P25.10: behind %s the layouts do not hold", line(a))
		}
	}
	save(t, m)
	save(t, twin)
	if m.Saved() != twin.Saved() {
		t.Fatal("P25.13: a machine and its twin have two images")
	}
}
