package heap

import "kiln/api"

// Point is a time in a heap's life. Its fields are the program's own business.
type Point struct {
	heap *Heap
	age  int
	// turns is how many objects were laid then: as long as the point is not
	// void, all that was allocated since lies behind them.
	turns int
}

// Free takes an object away.
func (h *Heap) Free(oop int) api.Errno {
	if _, e := h.seatOf(oop); e != api.OK {
		return e
	}
	h.vacate(oop)
	h.drawEnd()
	h.age++
	return api.OK
}

// vacate takes an object away; who calls it draws the end.
func (h *Heap) vacate(oop int) {
	s := h.seats[oop]
	clear(h.memory[s.place : s.place+s.length])
	h.order[s.turn] = 0
	h.seats[oop] = seat{}
	h.taken.remove(oop)
}

// drawEnd draws the end in to the object that lies last. What is left behind
// was wiped when it was vacated.
func (h *Heap) drawEnd() {
	turns, end := len(h.order), 0
	for turns > 0 && h.order[turns-1] == 0 {
		turns--
	}
	if turns > 0 {
		last := h.seats[h.order[turns-1]]
		end = last.place + last.length
	}
	h.order, h.memory = h.order[:turns], h.memory[:end]
}

// Exchange lets two objects change what they are.
func (h *Heap) Exchange(a, b int) api.Errno {
	x, e := h.seatOf(a)
	if e != api.OK {
		return e
	}
	y, e := h.seatOf(b)
	if e != api.OK {
		return e
	}
	h.seats[a], h.seats[b] = y, x
	h.order[y.turn], h.order[x.turn] = a, b
	h.age++
	return api.OK
}

// Point is the present time.
func (h *Heap) Point() Point {
	if !h.made() {
		return Point{}
	}
	return Point{heap: h, age: h.age, turns: len(h.order)}
}

// Back takes away what was allocated since.
func (h *Heap) Back(p Point) api.Errno {
	if !h.made() {
		return api.ErrNil
	}
	if p.heap != h || p.age != h.age {
		return api.ErrPoint
	}
	for _, oop := range h.order[p.turns:] {
		h.vacate(oop)
	}
	h.drawEnd()
	h.age++
	return api.OK
}

// Keep takes all objects but these away, and lets these slide together.
func (h *Heap) Keep(oops []int) (int, int, api.Errno) {
	if !h.made() {
		return 0, 0, api.ErrNil
	}
	kept := make([]bool, len(h.seats))
	for _, oop := range oops {
		if _, e := h.seatOf(oop); e != api.OK {
			return 0, 0, e
		}
		kept[oop] = true
	}
	count, end := h.taken.count, len(h.memory)
	for _, oop := range h.order {
		if oop != 0 && !kept[oop] {
			h.vacate(oop)
		}
	}
	h.slide()
	h.age++
	return count - h.taken.count, end - len(h.memory), api.OK
}

// slide moves the objects together, in the order of their places.
func (h *Heap) slide() {
	turns, end := 0, 0
	for _, oop := range h.order {
		if oop == 0 {
			continue
		}
		s := h.seats[oop]
		copy(h.memory[end:], h.memory[s.place:s.place+s.length])
		h.seats[oop] = seat{place: end, length: s.length, turn: turns}
		h.order[turns] = oop
		turns, end = turns+1, end+s.length
	}
	clear(h.memory[end:])
	h.order, h.memory = h.order[:turns], h.memory[:end]
}
