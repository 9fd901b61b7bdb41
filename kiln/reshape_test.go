package kiln_test

import (
	"fmt"
	"math/rand"
	"regexp"
	"slices"
	"strings"
	"testing"

	"kiln/api"
	"kiln/kiln"
)

// view is what Inspect tells: the globals' forms, and the objects by their labels.
type view struct {
	globals []string // names
	values  []string // their forms
	objects []seen   // the first is none: labels begin with 1
	more    bool
}

// seen is an object that is told: its class, and the words behind it.
type seen struct {
	class string
	words []string
}

// words cuts a line at its blanks, but for those between quotes.
func words(line string) []string {
	return regexp.MustCompile(`(?:[^ ']|'(?:[^'\\]|\\.)*')+`).FindAllString(line, -1)
}

// viewed reads what Inspect tells.
func viewed(text string) *view {
	v := &view{objects: []seen{{}}}
	for _, s := range strings.Split(strings.TrimSuffix(text, "\n"), "\n") {
		list := words(s)
		switch {
		case len(list) == 0:
		case list[0] == "more":
			v.more = true
		case list[0][0] != '@':
			v.globals, v.values = append(v.globals, list[0]), append(v.values, list[2])
		default:
			v.objects = append(v.objects, seen{list[1], list[2:]})
		}
	}
	return v
}

// text tells a view again, with new labels.
func (v *view) text() string {
	label := regexp.MustCompile(`(^|[=(])@[0-9]+`)
	given, order := map[string]int{}, []string{}
	renamed := func(word string) string {
		if strings.Contains(word, "'") {
			return word
		}
		return label.ReplaceAllStringFunc(word, func(s string) string {
			head, old, _ := strings.Cut(s, "@")
			if given[old] == 0 {
				order = append(order, old)
				given[old] = len(order)
			}
			return fmt.Sprintf("%s@%d", head, given[old])
		})
	}
	var b strings.Builder
	for i, g := range v.globals {
		b.WriteString(g + " = " + renamed(v.values[i]) + "\n")
	}
	for i := 0; i < len(order); i++ {
		n := 0
		fmt.Sscan(order[i], &n)
		fmt.Fprintf(&b, "@%d %s", i+1, v.objects[n].class)
		for _, w := range v.objects[n].words {
			b.WriteString(" " + renamed(w))
		}
		b.WriteString("\n")
	}
	return b.String()
}

// reshaped is the view in which the instances of some classes have other fields.
func (v *view) reshaped(fields map[string][]string) *view {
	u := &view{v.globals, v.values, slices.Clone(v.objects), v.more}
	for i, o := range u.objects {
		list, there := fields[o.class]
		if !there {
			continue
		}
		was := map[string]string{}
		for _, w := range o.words {
			name, form, _ := strings.Cut(w, "=")
			was[name] = form
		}
		u.objects[i].words = nil
		for _, name := range list {
			form := was[name]
			if form == "" {
				form = "nil"
			}
			u.objects[i].words = append(u.objects[i].words, name+"="+form)
		}
	}
	return u
}

// P25.8: behind a reshape that is taken there is what there was, each object the
// same; instances have their values in the new order, and nil in new fields.
func TestReshapeKeeps(t *testing.T) {
	taken, moved := 0, 0
	for seed := range int64(250) {
		m, w := newMachine(t, 20000, 3000), newAuthor(800+seed)
		for i := range len(begin()) + 60 {
			a := w.turn(i)
			before := m.Do(api.Act{Kind: api.ActInspect}).Text
			x := m.Do(a)
			w.learn(a, x, m.Saved())
			if a.Kind != api.ActReshape || x.Code != api.OK {
				continue
			}
			taken++
			want := viewed(before).reshaped(w.families(a.Name)).text()
			told(t, m, want)
			if want != before {
				moved++
			}
		}
	}
	if taken < 400 || moved < 150 {
		t.Fatalf("few reshapes were taken: %d, %d", taken, moved)
	}
}

// families is the fields of a class and of those below it.
func (w *author) families(name string) map[string][]string {
	list := map[string][]string{name: w.fields(name)}
	for _, c := range w.classes {
		if list[w.super[c]] != nil || w.super[c] == name {
			list[c] = w.fields(c)
		}
	}
	return list
}

// P25.8: whoever held an instance holds it: globals, slots, processes that wait,
// blocks, messages; also the instances of classes below.
func TestReshapeIdentity(t *testing.T) {
	m := begun(t, 6000, 800)
	for _, a := range []api.Act{
		defines("Q", "P", "z"), global("H"), global("I"), global("J"), lays("Object", "doesNotUnderstand: m ^m"), lays("P", "blk ^[:k | k == self]"),
		lays("Q", "z: a z := a"),
		spawns("H := Q new. H x: G y: H. H z: 5. I := Array new: 3. I at: 1 put: G. I at: 2 put: H. I at: 3 put: ([:k | k == (I at: 1)]). J := 3 with: G with: H"), runs(2, 99),
		// One that waits in methods that are not stale then, with the instances on its stack.
		spawns("| g h | g := G. h := H. 1 to: 3 do: [:i | i + 1]. ^(g == G and: [h == (I at: 2)]) and: [((I at: 3) value: g) and: [(J arguments at: 2) == h]]"), runs(3, 2),
	} {
		takes(t, m, a)
	}
	before := m.Do(api.Act{Kind: api.ActInspect}).Text
	takes(t, m, reshapes("P", "w y x"))
	told(t, m, viewed(before).reshaped(map[string][]string{"P": {"w", "y", "x"}, "Q": {"w", "y", "x", "z"}}).text())
	if x := takes(t, m, runs(3, 99)); x.State != api.Ended || x.Text != "true" {
		t.Fatalf("P25.8: %+v", x)
	}
	takes(t, m, spawns("^H sum"))
	if x := m.Do(runs(4, 9)); x.Code != api.ErrUnderstood && x.Text != "a Message" {
		t.Fatalf("P25.8: %+v", x)
	}
	takes(t, m, reshapes("P", "x y"))
	told(t, m, before)
}

// freshReshape is a reshape that an author may ask for.
func freshReshape(w *author) api.Act {
	name := w.one(append(slices.Repeat(w.classes, 3), "Object", "Nope")...)
	if w.Intn(4) == 0 {
		return api.Act{Kind: api.ActReshape, Name: name, Names: w.list(4)}
	}
	return api.Act{Kind: api.ActReshape, Name: name, Names: w.changed(w.own[name])}
}

// refusable is the marks with which a reshape is refused in a machine like this
// one: {0} is that it is refused without any. A mark that is there stays.
func refusable(t *testing.T, text string, a api.Act) []int {
	t.Helper()
	x := loaded(t, text, 160, 20).Do(a)
	if x.Code == api.ErrMarked {
		return nil
	}
	if x.Code != api.OK {
		return []int{0}
	}
	var list []int
	for k := 1; pictured(text).mark == 0; k++ {
		m := loaded(t, text, 160, 20)
		m.Do(marks(k))
		if m.Do(a).Code == api.OK {
			break
		}
		list = append(list, k)
	}
	return list
}

// P25.9: reshapes that are refused, for whatever reason, at whichever
// allocation, ahead of any act: all that comes later is as if they had not been
// asked, and Room and the image are the same at once.
func TestReshapeIsWholeOrNot(t *testing.T) {
	t.Parallel()
	codes := map[api.Errno]int{}
	stories(t, 900, 60, 50, func(seed int64, s *story) {
		r, w := rand.New(rand.NewSource(seed)), newAuthor(seed)
		s.again("P25.9", teller{
			ahead: func(m *kiln.Machine, i int) *kiln.Machine {
				if r.Intn(3) == 0 && i >= len(begin()) {
					refuses(t, m, freshReshape(w), codes)
				}
				return m
			},
			behind: func(m *kiln.Machine, i int) { w.learn(s.acts[i], s.answers[i], s.saved[i]) },
		})
	})
	for _, e := range []api.Errno{api.ErrMarked, api.ErrFull, api.ErrUnknown, api.ErrClass, api.ErrKernel, api.ErrDouble, api.ErrBelow, api.ErrInherited} {
		if codes[e] == 0 {
			t.Errorf("P25.9: no reshape was refused by %d: %v", e, codes)
		}
	}
	if codes[api.ErrMarked] < 500 {
		t.Errorf("few reshapes were refused by a mark: %v", codes)
	}
}

// refuses asks a machine for a reshape, as often as it is refused.
func refuses(t *testing.T, m *kiln.Machine, a api.Act, codes map[api.Errno]int) {
	t.Helper()
	save(t, m)
	text := m.Saved()
	for _, k := range refusable(t, text, a) {
		words, oops := m.Room()
		if k > 0 {
			m.Do(marks(k))
		}
		x := m.Do(a)
		codes[x.Code]++
		if x.Code == api.OK || k > 0 && x != (api.Answer{Refusal: api.Refusal{Code: api.ErrMarked}}) {
			t.Fatalf("P25.9: %s with the mark %d: %+v", line(a), k, x)
		}
		v, w := m.Room()
		if v != words || w != oops || !m.Layouts() {
			t.Fatalf("P25.9: behind %s with the mark %d Room is %d, %d, want %d, %d", line(a), k, v, w, words, oops)
		}
		if save(t, m); m.Saved() != text {
			t.Fatalf("P25.9: behind %s with the mark %d there is another image", line(a), k)
		}
	}
}

// P25.7, P25.9: in a room that is too small by one word, or by one object, a
// reshape is refused as a whole; in one that is just large enough it is taken.
func TestReshapeInNarrowRoom(t *testing.T) {
	m := begun(t, 6000, 800)
	takes(t, m, spawns("G := Array new: 3. 1 to: 3 do: [:i | G at: i put: P new]. (G at: 2) x: 3 y: 4"))
	takes(t, m, runs(2, 99))
	live := save(t, m)
	words, oops := live.free()
	// The own names; code and method, twice; the methods; three bodies.
	need := (2 + 3) + (2 + 8 + 11) + (2 + 14 + 11) + (2 + 2) + 3*(2+3)
	for k := range need + 3 {
		narrowed(t, m.Saved(), 6000-words+k, 800, k >= need)
	}
	for k := range 12 {
		narrowed(t, m.Saved(), 6000, 800-oops+k, k >= 9)
	}
}

// narrowed asks for a reshape in an image whose room is another one.
func narrowed(t *testing.T, text string, words, oops int, taken bool) {
	t.Helper()
	m := loaded(t, strings.Replace(text, "room 6000 800 ", fmt.Sprintf("room %d %d ", words, oops), 1), 160, 20)
	takes(t, m, api.Act{Kind: api.ActSave})
	before := m.Saved()
	v, w := m.Room()
	if taken {
		takes(t, m, reshapes("P", "y new x"))
		told(t, m, "G = @1\n@1 Array (@2 @3 @4)\n@2 P y=nil new=nil x=nil\n@3 P y=4 new=nil x=3\n@4 P y=nil new=nil x=nil\n")
		return
	}
	answers(t, m, reshapes("P", "y new x"), api.ErrFull)
	takes(t, m, api.Act{Kind: api.ActSave})
	if a, b := m.Room(); a != v || b != w || m.Saved() != before || !m.Layouts() {
		t.Fatalf("P25.9: behind a refusal in the room %d, %d something is another thing", words, oops)
	}
}
