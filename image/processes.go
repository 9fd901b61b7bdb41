package image

import (
	"kiln/api"
	"kiln/context"
	"kiln/object"
	"kiln/word"
)

// mostOver is the greatest number that the cell of a process that is over may hold.
const mostOver = 999

// lookAtProcesses: each that is ready stands on contexts of its own.
func (s *survey) lookAtProcesses() {
	all := array(s.root(api.RootProcesses))
	demand(all.Size() <= api.MaxProcesses)
	for i := range all.Size() {
		if word.Kind(all.At(i)) == word.KindInt {
			demandInt(all.At(i), 0, mostOver)
		} else {
			s.lookAtProcess(all.ObjectAt(i))
		}
	}
	// No two chains share a context: so no Process was met twice.
	demand(len(s.chains) == len(s.ofClass[api.Process]))
}

func (s *survey) lookAtProcess(p object.Object) {
	demand(p.Is(api.Process, api.FormatWords) && p.Size() == api.ProcessSlots)
	chain, e := context.Chain(s.kernel, p.ObjectAt(api.ProcessTop).Oop())
	demand(e == api.OK)
	for _, c := range chain {
		s.runs[c]++
		demand(s.runs[c] == 1)
	}
	s.chains = append(s.chains, chain)
}

// lookAtChains: each context stands where it waits, or where it goes on.
func (s *survey) lookAtChains() {
	for _, chain := range s.chains {
		for i, c := range chain {
			x := s.context(c)
			demand(x.Depth == len(chain)-i)
			depth := x.Top
			if i > 0 {
				// What it waits for is to be pushed yet.
				depth++
			}
			m := s.objectOf(x.Method).Oop()
			if _, fresh := s.codes[m]; fresh {
				demand(s.layout(m).comes(x.Start, x.Pc, depth))
			}
		}
	}
}

// context is the context of that oop as data.
func (s *survey) context(oop int) api.ContextInfo {
	x, e := context.Info(s.kernel, oop)
	demand(e == api.OK)
	return x
}
