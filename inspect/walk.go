package inspect

import (
	"iter"
	"strconv"
	"strings"

	"kiln/api"
	"kiln/class"
)

// walk is what was met so far, from the globals on, and what was told of it.
// Words are told in the order in which they are met: so telling is walking.
type walk struct {
	kernel  *class.Kernel
	tellers map[int]teller
	labels  map[int]int // by oop
	met     []sight     // by label, the first of which is 1
	more    bool        // an object was met for which there was no label
	text    strings.Builder
}

// line writes a line of these parts.
func (w *walk) line(parts ...string) {
	for _, s := range parts {
		w.text.WriteString(s)
	}
	w.text.WriteByte('\n')
}

func (w *walk) tellGlobals() {
	for i, name := range w.kernel.Globals() {
		x, _ := w.kernel.Value(i)
		w.line(name, " = ", w.form(x))
	}
}

func (w *walk) tellObjects() {
	for label, s := range w.labelled() {
		w.line(named(label), " ", s.className(), w.teller(s)(w, s))
	}
}

// labelled is the objects with labels, those too that get one meanwhile.
func (w *walk) labelled() iter.Seq2[int, sight] {
	return func(yield func(int, sight) bool) {
		// What is told of an object may let the list grow: its end is asked for each time.
		for i := 0; i < len(w.met); i++ {
			if !yield(i+1, w.met[i]) {
				return
			}
		}
	}
}

// form is the form of a word.
func (w *walk) form(x api.Word) string {
	s := see(w.kernel, x)
	if text, plain := s.plain(); plain {
		return text
	}
	label, there := w.label(s)
	if !there {
		w.more = true
		return "@"
	}
	return named(label)
}

// label is an object's label; one that has none gets the next, as long as there are any.
func (w *walk) label(s sight) (int, bool) {
	label, there := w.labels[s.Oop()]
	if there || len(w.met) == api.MaxNodes {
		return label, there
	}
	w.met = append(w.met, s)
	w.labels[s.Oop()] = len(w.met)
	return len(w.met), true
}

// named is how an object with a label is named.
func named(label int) string { return "@" + strconv.Itoa(label) }

// forms is the forms of all slots of an object.
func (w *walk) forms(s sight) []string {
	list := make([]string, s.Size())
	for i := range list {
		list[i] = w.form(s.ValueAt(i))
	}
	return list
}
