package space

import (
	"slices"

	"kiln/api"
	"kiln/collect"
	"kiln/word"
)

const (
	// header is the words that an object takes beside those of its slots.
	header = 2
	// bytesOfWord is how many slots of bytes take one word.
	bytesOfWord = 4
)

// Alloc makes an object; the word that names it.
func (s *Space) Alloc(class api.Word, n, format int) (api.Word, api.Errno) {
	if !s.made() {
		return 0, api.ErrNil
	}
	w, e := tried(s.heap.Alloc, class, n, format)
	if e != api.ErrFull || s.bracket != nil {
		return w, e
	}
	s.Collect()
	return tried(s.heap.Alloc, class, n, format)
}

// tried is the word of what an allocation makes.
func tried(alloc func(class api.Word, n, format int) (int, api.Errno), class api.Word, n, format int) (api.Word, api.Errno) {
	oop, e := alloc(class, n, format)
	if e != api.OK {
		return 0, e
	}
	return word.Object(oop)
}

// Collect takes away what nothing leads to.
func (s *Space) Collect() (int, int, api.Errno) {
	if !s.made() {
		return 0, 0, api.ErrNil
	}
	if s.bracket != nil {
		return 0, 0, api.ErrPoint
	}
	return collect.Run(s.heap, s.roots())
}

// Room is what a collection would leave.
func (s *Space) Room() (int, int) {
	if !s.made() {
		return 0, 0
	}
	live, _ := collect.Reach(s.heap, s.roots())
	words := s.words
	for _, oop := range live {
		n, format, _ := s.heap.Size(oop)
		words -= length(n, format)
	}
	return words, s.oops - len(live)
}

// roots is the words that say what is live.
func (s *Space) roots() []api.Word {
	list := slices.Clone(s.stack)
	if w, e := word.Object(s.root); e == api.OK {
		list = append(list, w)
	}
	return list
}

// length is how many words an object takes.
func length(n, format int) int {
	if format == api.FormatBytes {
		n = (n + bytesOfWord - 1) / bytesOfWord
	}
	return header + n
}
