package heap

import (
	"slices"

	"kiln/api"
)

// State is the heap as data.
func (h *Heap) State() api.HeapState {
	if !h.made() {
		return api.HeapState{}
	}
	s := api.HeapState{Words: h.words, Oops: h.oops, Mark: h.mark}
	s.Objects = slices.Grow(s.Objects, h.taken.count)
	for _, oop := range h.order {
		if oop != 0 {
			s.Objects = append(s.Objects, h.object(oop))
		}
	}
	return s
}

// object is one object as data.
func (h *Heap) object(oop int) api.HeapObject {
	s := h.seats[oop]
	n, format := h.shape(s)
	o := api.HeapObject{Oop: oop, Class: h.memory[s.place], Format: format}
	o.Slots = slices.Grow(o.Slots, n)
	for i := range n {
		o.Slots = append(o.Slots, h.slot(s, format, i))
	}
	return o
}

// Load is the heap of a state.
func Load(s api.HeapState) (*Heap, api.Errno) {
	h, e := New(s.Words, s.Oops)
	if e != api.OK || !isMark(s.Mark) {
		return nil, api.ErrArg
	}
	h.mark = s.Mark
	for _, o := range s.Objects {
		if !h.takes(o) {
			return nil, api.ErrHeap
		}
		h.load(o)
	}
	return h, api.OK
}

// takes tells whether an object may lie in the heap, beside those that do.
func (h *Heap) takes(o api.HeapObject) bool {
	if _, e := h.seatOf(o.Oop); e == api.OK || o.Oop < 1 || o.Oop > h.oops {
		return false
	}
	if !isWord(o.Class) || !isFormat(o.Format) || len(o.Slots) > api.MaxSlots {
		return false
	}
	if words, _ := h.Room(); words < length(len(o.Slots), o.Format) {
		return false
	}
	for _, w := range o.Slots {
		if !mayStand(w, o.Format) {
			return false
		}
	}
	return true
}

// load lays an object that the heap takes.
func (h *Heap) load(o api.HeapObject) {
	s := h.lay(o.Oop, o.Class, len(o.Slots), o.Format)
	for i, w := range o.Slots {
		h.setSlot(s, o.Format, i, w)
	}
}
