package kiln_test

import (
	"strings"
	"testing"

	"kiln/api"
	"kiln/kiln"
)

// story is a script that was written at random, and what a machine came to.
type story struct {
	t           *testing.T
	words, oops int
	acts        []api.Act // those that load the last image have its text
	answers     []api.Answer
	saved       []string // the last image, behind each act
	end         string   // the image behind all
}

func newStory(t *testing.T, seed int64, words, oops, acts int) *story {
	s := &story{t: t, words: words, oops: oops}
	m := newMachine(t, words, oops)
	w := newAuthor(seed)
	for i := range len(begin()) + acts {
		a := w.turn(i)
		if a.Kind == api.ActLoad && a.Text == "" {
			a.Text = m.Saved() + "\n"[min(len(m.Saved()), 1):]
		}
		x := m.Do(a)
		w.learn(a, x, m.Saved())
		s.acts, s.answers, s.saved = append(s.acts, a), append(s.answers, x), append(s.saved, m.Saved())
	}
	save(t, m)
	s.end = m.Saved()
	return s
}

// stories is many of them, in wide rooms and narrow ones.
func stories(t *testing.T, from int64, many, acts int, do func(seed int64, s *story)) {
	for i := range int64(many) {
		words, oops := 20000, 3000
		if i%3 == 0 {
			words, oops = 700+int(i*37%600), 90+int(i*13%100)
		}
		do(from+i, newStory(t, from+i, words, oops, acts))
	}
}

// teller is how a story is told again: what is done ahead of an act, with which
// machine it goes on, and how the act is done.
type teller struct {
	ahead  func(m *kiln.Machine, i int) *kiln.Machine
	do     func(m *kiln.Machine, a api.Act) api.Answer
	behind func(m *kiln.Machine, i int)
}

// again tells a story to another machine, which must come to the same.
func (s *story) again(promise string, by teller) {
	s.t.Helper()
	m := newMachine(s.t, s.words, s.oops)
	for i, a := range s.acts {
		if by.ahead != nil {
			m = by.ahead(m, i)
		}
		x := api.Answer{}
		if by.do != nil {
			x = by.do(m, a)
		} else {
			x = m.Do(a)
		}
		if x != s.answers[i] {
			s.t.Fatalf("%s: %+v, want %+v, behind\n%s", promise, x, s.answers[i], s.lines(i))
		}
		if a.Kind == api.ActSave && m.Saved() != s.saved[i] {
			s.t.Fatalf("%s: another image behind\n%s", promise, s.lines(i))
		}
		if by.behind != nil {
			by.behind(m, i)
		}
	}
	save(s.t, m)
	if m.Saved() != s.end {
		s.t.Fatalf("%s: another image at the end of\n%s", promise, s.lines(len(s.acts)-1))
	}
}

// lines is the acts up to one.
func (s *story) lines(last int) string {
	var b strings.Builder
	for _, a := range s.acts[:last+1] {
		b.WriteString(line(a) + "\n")
	}
	return b.String()
}

// loaded is a machine of some room that has loaded an image.
func loaded(t *testing.T, text string, words, oops int) *kiln.Machine {
	t.Helper()
	m := newMachine(t, words, oops)
	if x := m.Do(api.Act{Kind: api.ActLoad, Text: text}); x != (api.Answer{}) {
		t.Fatalf("P25.13: Load = %+v", x)
	}
	return m
}
