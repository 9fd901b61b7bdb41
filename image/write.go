package image

import (
	"strconv"
	"strings"

	"kiln/api"
	"kiln/class"
	"kiln/object"
)

// The words by which lines are told from one another.
const (
	firstLine   = "kiln image 1"
	roomWord    = "room"
	symbolsWord = "symbols"
	objectsWord = "objects"
	ofWords     = "w"
	ofBytes     = "b"
	lastLine    = "end"
)

const hexDigits = "0123456789abcdef"

// writer writes the text of an image.
type writer struct {
	*walk
	text strings.Builder
}

// textOf is the text of a kernel's image.
func textOf(k *class.Kernel) string {
	w := writer{walk: newWalk(k)}
	state := k.Space().Heap().State()
	symbols := k.Symbols().All()
	w.line(firstLine)
	w.line(roomWord, state.Words, state.Oops, state.Mark)
	w.line(symbolsWord, len(symbols))
	for _, s := range symbols {
		w.line(inHex(s))
	}
	w.line(objectsWord, len(w.met))
	for _, o := range w.met {
		w.object(o)
	}
	w.line(lastLine)
	return w.text.String()
}

// line writes a line of a word and some numbers.
func (w *writer) line(head string, numbers ...int) {
	w.text.WriteString(head)
	for _, n := range numbers {
		w.digits(n)
	}
	w.text.WriteByte('\n')
}

func (w *writer) digits(n int) {
	w.text.WriteByte(' ')
	w.text.WriteString(strconv.Itoa(n))
}

func (w *writer) object(o object.Object) {
	class, _ := o.Class().Word()
	of := int(w.renamed(class))
	if o.Format() == api.FormatBytes {
		w.bytes(of, o.Bytes())
		return
	}
	w.text.WriteString(ofWords)
	w.digits(of)
	for i := range o.Size() {
		w.digits(int(w.renamed(o.At(i))))
	}
	w.text.WriteByte('\n')
}

func (w *writer) bytes(class int, bytes string) {
	w.text.WriteString(ofBytes)
	w.digits(class)
	if bytes != "" {
		w.text.WriteString(" " + inHex(bytes))
	}
	w.text.WriteByte('\n')
}

// inHex is a text's bytes as two digits each.
func inHex(text string) string {
	digits := make([]byte, 0, 2*len(text))
	for i := range len(text) {
		digits = append(digits, hexDigits[text[i]>>4], hexDigits[text[i]&15])
	}
	return string(digits)
}
