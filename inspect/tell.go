package inspect

import (
	"strconv"
	"strings"

	"kiln/api"
)

// teller tells what stands behind the name of an object's class.
type teller func(w *walk, s sight) string

// tellers is how an object of each class is told, by the oops of the classes
// whose objects have no fields.
func tellers() map[int]teller {
	return map[int]teller{
		api.String:  (*walk).bytes,
		api.Array:   (*walk).elements,
		api.Block:   (*walk).parameters,
		api.Method:  (*walk).nothing,
		api.Context: (*walk).nothing,
		api.Process: (*walk).nothing,
		api.Message: (*walk).parts,
	}
}

func (w *walk) teller(s sight) teller {
	if tell, there := w.tellers[s.class]; there {
		return tell
	}
	return (*walk).fields
}

func (w *walk) bytes(s sight) string {
	// No layer makes a String of words: its slots are told, as they may name objects.
	if !s.isString() {
		return w.fields(s)
	}
	return " " + written(s.Bytes())
}

func (w *walk) elements(s sight) string { return " (" + strings.Join(w.forms(s), " ") + ")" }

func (w *walk) parameters(s sight) string { return " " + digits(s.ValueAt(api.BlockParams)) }

func (w *walk) nothing(s sight) string { return "" }

func (w *walk) parts(s sight) string { return " " + strings.Join(w.forms(s), " ") }

// fields tells each slot by its field's name.
func (w *walk) fields(s sight) string {
	names, _ := w.kernel.Fields(s.class)
	var text strings.Builder
	for i, form := range w.forms(s) {
		name := strconv.Itoa(i + 1)
		if i < len(names) {
			name = names[i]
		}
		text.WriteString(" " + name + "=" + form)
	}
	return text.String()
}
