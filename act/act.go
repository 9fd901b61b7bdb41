// Package act: what an act does to the memory and the symbols of a kernel. It
// makes objects whole, keeps them while it goes on, and gives back what it
// must where it is refused: see DOC.md, M2 to M4.
package act

import (
	"kiln/api"
	"kiln/space"
	"kiln/symbol"
	"kiln/word"
)

// Act is an act that goes on, and how things were when it began.
type Act struct {
	space   *space.Space
	symbols *symbol.Table
	count   int
	mark    int
	kept    int
}

// Begin is an act over a space and its symbols.
func Begin(s *space.Space, t *symbol.Table) *Act {
	return &Act{space: s, symbols: t, count: t.Count(), mark: s.Heap().Marked()}
}

// Symbols is the words of some texts' symbols; those that are new are added, in order.
func (a *Act) Symbols(texts ...string) ([]api.Word, api.Errno) {
	var list []api.Word
	for _, text := range texts {
		n, e := a.symbols.Add(text)
		if e != api.OK {
			return nil, e
		}
		w, e := word.Symbol(n)
		if e != api.OK {
			return nil, e
		}
		list = append(list, w)
	}
	return list, api.OK
}

// Array is an Array of these slots; the empty one is the kernel's own.
func (a *Act) Array(slots ...api.Word) (api.Word, api.Errno) {
	if len(slots) == 0 {
		return word.Object(api.Empty)
	}
	return a.Make(api.Array, slots...)
}

// Make is a new object of a class, with these slots, kept until the act ends.
func (a *Act) Make(class int, slots ...api.Word) (api.Word, api.Errno) {
	return a.holding(Lay(a.space, class, api.FormatWords, len(slots), slots...))
}

// String is a new String of these bytes, kept until the act ends; the empty one, too, is new.
func (a *Act) String(text string) (api.Word, api.Errno) {
	return a.holding(LayString(a.space, text))
}

// holding keeps what was laid, if it was.
func (a *Act) holding(w api.Word, e api.Errno) (api.Word, api.Errno) {
	if e == api.OK {
		e = a.Keep(w)
	}
	if e != api.OK {
		return 0, e
	}
	return w, api.OK
}

// LayString is a new String of these bytes, laid as Lay lays.
func LayString(s *space.Space, text string) (api.Word, api.Errno) {
	slots := make([]api.Word, len(text))
	for i := range slots {
		slots[i] = api.Word(text[i])
	}
	return Lay(s, api.String, api.FormatBytes, len(slots), slots...)
}

// Lay is a new object of a class, with n slots of which the first hold these.
// It is part of no act: nothing is kept for it, neither it nor what they name.
func Lay(s *space.Space, class, format, n int, first ...api.Word) (api.Word, api.Errno) {
	c, e := word.Object(class)
	if e != api.OK {
		return 0, e
	}
	w, e := s.Alloc(c, n, format)
	if e != api.OK {
		return 0, e
	}
	if e = fill(s, w, first); e != api.OK {
		return 0, e
	}
	return w, api.OK
}

func fill(s *space.Space, w api.Word, first []api.Word) api.Errno {
	oop, e := word.Oop(w)
	for i := 0; i < len(first) && e == api.OK; i++ {
		e = s.Heap().Put(oop, i, first[i])
	}
	return e
}

// Keep lets nothing of what these words lead to go until the act ends.
func (a *Act) Keep(words ...api.Word) api.Errno {
	e := a.space.Keep(words...)
	if e == api.OK {
		a.kept += len(words)
	}
	return e
}

// End lets go what was kept. If the act was refused, it gives back the symbols
// that it added, and the mark's count; the answer is what it was refused for.
func (a *Act) End(e api.Errno) api.Errno {
	a.space.Drop(a.kept)
	a.kept = 0
	if e != api.OK {
		a.Back()
	}
	return e
}

// Back gives back the symbols that the act added, and the mark's count.
func (a *Act) Back() {
	a.symbols.Back(a.count)
	// A mark that hit is used up: there is none now to set back.
	if a.space.Heap().Marked() != 0 {
		a.space.Heap().Mark(a.mark)
	}
}
