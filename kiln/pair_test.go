package kiln_test

import (
	"fmt"
	"strings"
	"testing"

	"kiln/api"
	"kiln/kiln"
	"kiln/script"
)

// machine is a new one.
func newMachine(t *testing.T, words, oops int) *kiln.Machine {
	t.Helper()
	m, e := kiln.New(words, oops)
	if m == nil || e != api.OK {
		t.Fatalf("P25.1: New(%d, %d) = %v, %d", words, oops, m != nil, e)
	}
	return m
}

// line is an act as it stands in a script.
func line(a api.Act) string {
	s, e := script.PrintAct(a)
	if e != api.OK {
		return fmt.Sprintf("%+v", a)
	}
	if len(s) > 400 {
		return s[:400]
	}
	return s
}

// pair is a machine and its model. The twin does what the machine does; its
// images tell what is live. Where exact is set, it goes event by event, and the
// model foretells what there is no room for; else there is room.
type pair struct {
	t     *testing.T
	m     *kiln.Machine
	twin  *kiln.Machine
	x     *model
	exact bool
	acts  []api.Act
	came  map[string]int
	run   int // the process that runs; 0: none
	fuel  int // that the twin is behind by
}

func newPair(t *testing.T, words, oops int, exact bool, came map[string]int) *pair {
	p := &pair{t: t, m: newMachine(t, words, oops), twin: newMachine(t, words, oops), x: newModel(), exact: exact, came: came}
	p.x.instances = func(number int) int { return p.look().instances(number) }
	if exact {
		p.x.room = func() (int, int) { return p.look().free() }
		p.x.ahead = p.follow
	}
	return p
}

// look is the twin's image.
func (p *pair) look() *picture { return save(p.t, p.twin) }

// follow brings the twin up to an event that the model stands ahead of.
func (p *pair) follow(event string) {
	x := p.twin.Do(api.Act{Kind: api.ActRun, Number: p.run, Fuel: p.fuel})
	next, e := p.twin.Next(p.run)
	if x.State != api.Ready || x.Used != p.fuel || e != api.OK || next != event {
		p.fatal("P25.6: with the fuel %d the process %d answers %+v and stands ahead of %q, %d, want %q", p.fuel, p.run, x, next, e, event)
	}
	p.fuel = 1
}

func (p *pair) fatal(format string, args ...any) {
	p.t.Helper()
	var b strings.Builder
	for _, a := range p.acts {
		b.WriteString(line(a) + "\n")
	}
	p.t.Fatalf(format+"\nbehind the acts\n%s", append(args, b.String())...)
}

// do does an act in all, and says that all answer the same.
func (p *pair) do(a api.Act) api.Answer {
	p.t.Helper()
	p.acts = append(p.acts, a)
	got := p.m.Do(a)
	also := a
	if a.Kind == api.ActLoad && a.Text == "" {
		// The twin's own last image is another one.
		also.Text = p.m.Saved() + "\n"[min(len(p.m.Saved()), 1):]
	}
	p.run, p.fuel = a.Number, 0
	want := p.x.do(a)
	if p.exact && a.Kind == api.ActRun {
		also.Fuel = min(a.Fuel, p.fuel)
	}
	if other := p.twin.Do(also); other.Code != want.Code || other.Text != want.Text || other.State != want.State {
		p.fatal("P25.12, P25.14: the twin answers %+v, want %+v", other, want)
	}
	if a.Kind == api.ActSave {
		want.Number = len(p.m.Saved())
		p.x.saved(p.m.Saved())
	}
	if got != want {
		p.fatal("P25.6: the answer is %+v, want %+v", got, want)
	}
	p.came[fmt.Sprint(a.Kind, " ", int(got.Code))]++
	return got
}

// looks says that what the machine tells of itself is what the model has.
func (p *pair) looks() {
	p.t.Helper()
	if !p.m.Layouts() {
		p.fatal("P25.10: the layouts do not hold")
	}
	for i, x := range p.x.processes {
		next, e := p.m.Next(i + 1)
		switch {
		case x.state != api.Ready:
			if next != "" || e != api.ErrProcess {
				p.fatal("P25.3: Next(%d) = %q, %d of one that is over", i+1, next, e)
			}
		case next != x.ready() || e != api.OK:
			p.fatal("P25.3: Next(%d) = %q, %d, want %q", i+1, next, e, x.ready())
		}
	}
	if text := p.m.Do(api.Act{Kind: api.ActInspect}).Text; text != p.x.inspect() {
		p.fatal("P25.6: there is %q, want %q", text, p.x.inspect())
	}
	words, oops := p.m.Room()
	free, left := p.look().free()
	if words != free || oops != left {
		p.fatal("P25.3: Room = %d, %d, want %d, %d", words, oops, free, left)
	}
}

// plays lets an author write a script of so many acts.
func (p *pair) plays(w *author, acts int) {
	defer func() { p.x.close() }()
	for i := range len(begin()) + acts {
		a := w.turn(i)
		w.learn(a, p.do(a), p.m.Saved())
		if p.exact || w.Intn(4) == 0 {
			p.looks()
		}
	}
	p.looks()
}
