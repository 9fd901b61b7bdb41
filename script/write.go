package script

import "strconv"

// writer writes an act's line. What it has written it takes out of the field, so
// that what is left behind the line is what the line does not name.
type writer struct {
	line []byte
	long bool // a text was left out, with which the line would be too long
}

func (w *writer) isLong() bool { return w.long || len(w.line) > MaxLine }

// text leaves out what would make the line too long: no text is written as fewer
// bytes than it has, so none of any size needs to be written for being refused.
func (w *writer) text(field *string) {
	w.long = w.isLong() || len(w.line)+len(*field) > MaxLine
	if !w.long {
		w.line = appendText(w.line, *field)
	}
	*field = ""
}

func (w *writer) texts(field *[]string) {
	for _, s := range *field {
		w.text(&s)
	}
	*field = nil
}

func (w *writer) number(field *int) {
	w.line = appendNumbers(w.line, *field)
	*field = 0
}

// appendNumbers writes each number's word, and the blank ahead of it.
func appendNumbers(line []byte, numbers ...int) []byte {
	for _, n := range numbers {
		line = strconv.AppendInt(append(line, ' '), int64(n), 10)
	}
	return line
}

// appendText writes a text's byte word, and the blank ahead of it. What does not
// stand for itself may be a rune of many bytes, or none at all: so it is written
// when the next rune tells where it ends.
func appendText(line []byte, text string) []byte {
	line = append(line, ' ', byteMark)
	written := 0
	for at, r := range text {
		line = appendHidden(line, text[written:at])
		written = at
		if isPlain(r) {
			line = append(line, byte(r))
			written++
		}
	}
	return appendHidden(line, text[written:])
}

// appendHidden writes bytes that do not stand for themselves.
func appendHidden(line []byte, bytes string) []byte {
	for i := range len(bytes) {
		line = append(line, hiddenMark, hexDigits[bytes[i]>>4], hexDigits[bytes[i]&15])
	}
	return line
}

func endLine(line []byte) []byte { return append(line, '\n') }
