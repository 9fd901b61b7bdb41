package check

import (
	"slices"

	"kiln/api"
)

// walker goes on all ways through whole instructions whose jumps land.
type walker struct {
	places []place
	depths []int // by the word: how deep the stack is there; notCome: it was not come to
	come   []int // the words that were come to, as they were found
	ended  bool  // one came to the end of a body
	uneven bool  // two ways did not agree, or more was taken than there was
}

const notCome = -1

// follow answers the depths of what is come to, where the stack becomes so deep.
func follow(places []place, stack int) ([]int, api.Errno) {
	if len(places) == 0 {
		return nil, api.ErrEnd
	}
	w := &walker{places: places, depths: slices.Repeat([]int{notCome}, len(places))}
	w.meet(0, 0)
	for i := 0; i < len(w.come); i++ {
		w.leave(w.come[i])
	}
	if w.ended {
		return nil, api.ErrEnd
	}
	// The depth behind an instruction is that ahead of what it leads to, and a
	// return only takes: so the greatest one ahead is the greatest behind, too.
	if w.uneven || slices.Max(w.depths) != stack {
		return nil, api.ErrStack
	}
	return w.depths, api.OK
}

// meet is told of each way to an instruction.
func (w *walker) meet(at, depth int) {
	switch w.depths[at] {
	case depth:
	case notCome:
		w.depths[at] = depth
		w.come = append(w.come, at)
	default:
		w.uneven = true
	}
}

// leave goes on all ways that lead on from an instruction.
func (w *walker) leave(at int) {
	p := w.places[at]
	s := shapeOf(p.op)
	rest := w.depths[at] - s.takes - p.args
	if rest < 0 {
		// What else is come to is asked all the same: an end goes ahead of this.
		w.uneven = true
		rest = 0
	}
	switch s.kind {
	case goes, enters, forks, loops:
		w.goOn(p, rest+s.on)
	}
	switch s.kind {
	case enters:
		w.meet(p.end, 0)
	case leaps, forks, turns, loops:
		w.meet(p.to, rest+s.jump)
	}
}

// goOn goes to what stands behind an instruction in its body.
func (w *walker) goOn(p place, depth int) {
	if p.next == len(w.places) || w.places[p.next].body != p.body {
		w.ended = true
		return
	}
	w.meet(p.next, depth)
}
