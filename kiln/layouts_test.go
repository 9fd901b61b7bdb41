package kiln_test

import (
	"testing"

	"kiln/api"
	"kiln/kiln"
)

// top is the top context of a process that is ready; 0: there is none.
func (p *picture) top(process int) int {
	list := p.objects[p.at(api.Root, api.RootProcesses)].slots
	if process < 1 || process > len(list) || list[process-1]%4 != 0 {
		return 0
	}
	return p.at(list[process-1]/4, api.ProcessTop)
}

// isStale tells whether a context's method is of another layout than its class.
func (p *picture) isStale(context int) bool {
	method := p.at(context, api.ContextMethod)
	class := p.at(method, api.MethodClass)
	return p.objects[method].slots[api.MethodLayout] != p.objects[class].slots[api.ClassLayout]
}

// standsOnStale tells whether a context of the chain, or an outer of one, is stale.
func (p *picture) standsOnStale(context int) bool {
	for ; context != api.Nil; context = p.at(context, api.ContextSender) {
		for outer := context; outer != api.Nil; outer = p.at(outer, api.ContextOuter) {
			if p.isStale(outer) {
				return true
			}
		}
	}
	return false
}

// wrong is an object that has not as many slots as its class asks for; 0: none.
func (p *picture) wrong() int {
	for i, x := range p.objects {
		if i == 0 {
			continue
		}
		want := len(x.slots)
		switch c := x.class; {
		case c == api.Context:
			want = api.ContextSlots + x.slots[api.ContextTemps]/2 + p.objects[p.at(i, api.ContextMethod)].slots[api.MethodStack]/2
		case c == api.Block:
			want = api.BlockSlots
		case c == api.Class:
			want = api.ClassSlots
		case c == api.Object || c > api.Message:
			want = p.fields(c)
		}
		if len(x.slots) != want {
			return i
		}
	}
	return 0
}

// fields is how many a class has.
func (p *picture) fields(class int) int {
	if class == api.Nil {
		return 0
	}
	return len(p.objects[p.at(class, api.ClassOwn)].slots) + p.fields(p.at(class, api.ClassSuper))
}

// P25.10: behind every act, and at every event of every process, the layouts
// hold, and the running method is of its class's layout.
func TestLayouts(t *testing.T) {
	t.Parallel()
	ran := 0
	stories(t, 1000, 90, 60, func(_ int64, s *story) {
		s.again("P25.10", teller{
			do: func(m *kiln.Machine, a api.Act) api.Answer {
				first := true
				return pieces(m, a, func(int) int {
					if p := save(t, m); !first && p.isStale(p.top(a.Number)) {
						t.Fatalf("P25.10: behind an event of the process %d its method is stale", a.Number)
					}
					if first = false; !m.Layouts() {
						t.Fatal("P25.10: at an event the layouts do not hold")
					}
					ran++
					return 1
				})
			},
			behind: func(m *kiln.Machine, i int) {
				if !m.Layouts() || save(t, m).wrong() > 0 {
					t.Fatalf("P25.10: behind %s the layouts do not hold", line(s.acts[i]))
				}
			},
		})
	})
	if ran < 1000 {
		t.Fatalf("only %d events", ran)
	}
}
