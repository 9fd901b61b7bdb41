package heap

import "kiln/api"

const (
	byteBits = 8
	mostByte = 255
)

// seatOf is where an object lies, or why there is none.
func (h *Heap) seatOf(oop int) (seat, api.Errno) {
	if !h.made() {
		return seat{}, api.ErrNil
	}
	if oop < 1 || oop >= len(h.seats) || h.seats[oop].length == 0 {
		return seat{}, api.ErrOop
	}
	return h.seats[oop], api.OK
}

// shapeWord is the second word of an object's header.
func shapeWord(n, format int) api.Word { return api.Word(n<<1 | format) }

// shape is an object's number of slots, and its format.
func (h *Heap) shape(s seat) (n, format int) {
	w := int(h.memory[s.place+1])
	return w >> 1, w & 1
}

// Class is an object's class.
func (h *Heap) Class(oop int) (api.Word, api.Errno) {
	s, e := h.seatOf(oop)
	if e != api.OK {
		return 0, e
	}
	return h.memory[s.place], api.OK
}

// SetClass changes it.
func (h *Heap) SetClass(oop int, class api.Word) api.Errno {
	s, e := h.seatOf(oop)
	if e != api.OK {
		return e
	}
	if !isWord(class) {
		return api.ErrWord
	}
	h.memory[s.place] = class
	return api.OK
}

// Size is how many slots an object has, and its format.
func (h *Heap) Size(oop int) (int, int, api.Errno) {
	s, e := h.seatOf(oop)
	if e != api.OK {
		return 0, 0, e
	}
	n, format := h.shape(s)
	return n, format, api.OK
}

// At is a slot.
func (h *Heap) At(oop, i int) (api.Word, api.Errno) {
	s, e := h.seatOf(oop)
	if e != api.OK {
		return 0, e
	}
	n, format := h.shape(s)
	if i < 0 || i >= n {
		return 0, api.ErrSlot
	}
	return h.slot(s, format, i), api.OK
}

// Put changes a slot.
func (h *Heap) Put(oop, i int, w api.Word) api.Errno {
	s, e := h.seatOf(oop)
	if e != api.OK {
		return e
	}
	n, format := h.shape(s)
	if i < 0 || i >= n {
		return api.ErrSlot
	}
	if !mayStand(w, format) {
		return api.ErrWord
	}
	h.setSlot(s, format, i, w)
	return api.OK
}

// mayStand tells whether a slot of this format can hold it.
func mayStand(w api.Word, format int) bool {
	if format == api.FormatBytes {
		return w >= 0 && w <= mostByte
	}
	return isWord(w)
}

func (h *Heap) slot(s seat, format, i int) api.Word {
	if format == api.FormatWords {
		return h.memory[s.place+header+i]
	}
	place, shift := byteAt(s, i)
	return h.memory[place] >> shift & mostByte
}

func (h *Heap) setSlot(s seat, format, i int, w api.Word) {
	if format == api.FormatWords {
		h.memory[s.place+header+i] = w
		return
	}
	place, shift := byteAt(s, i)
	h.memory[place] = h.memory[place]&^(mostByte<<shift) | w<<shift
}

// byteAt is the word that a slot of bytes shares, and how many bits of other
// slots lie below its own there.
func byteAt(s seat, i int) (place, shift int) {
	return s.place + header + i/bytesOfWord, i % bytesOfWord * byteBits
}
