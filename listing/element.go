package listing

import "strconv"

// element is one of an array, or a literal by itself, as it is written: it adds
// itself to a page.
type element interface {
	write(page []byte) []byte
}

// The kinds of elements.
type (
	number  int
	text    string
	symbol  int
	array   []element
	nothing struct{}
	yes     struct{}
	no      struct{}
)

// The words of those that have no more to say.
const (
	nilWord   = "nil"
	trueWord  = "true"
	falseWord = "false"
)

func (n number) write(page []byte) []byte { return strconv.AppendInt(page, int64(n), 10) }

func (s symbol) write(page []byte) []byte { return number(s).write(append(page, '#')) }

func (nothing) write(page []byte) []byte { return append(page, nilWord...) }

func (yes) write(page []byte) []byte { return append(page, trueWord...) }

func (no) write(page []byte) []byte { return append(page, falseWord...) }

func (a array) write(page []byte) []byte {
	page = append(page, '(')
	for i, x := range a {
		if i > 0 {
			page = append(page, ' ')
		}
		page = x.write(page)
	}
	return append(page, ')')
}

func (t text) write(page []byte) []byte {
	page = append(page, '\'')
	for i := range len(t) {
		page = writeByte(page, t[i])
	}
	return append(page, '\'')
}

func writeByte(page []byte, c byte) []byte {
	switch {
	case isPlain(c):
		return append(page, c)
	case isMark(c):
		return append(page, '\\', c)
	}
	return append(page, '\\', 'x', digits[c>>4], digits[c&15])
}

// digits are those of the bytes that are written by their numbers.
const digits = "0123456789abcdef"

// isPlain tells of a text's byte whether it is written as it stands.
func isPlain(c byte) bool { return c >= 32 && c <= 126 && !isMark(c) }

// isMark tells whether a byte means something else in a written text.
func isMark(c byte) bool { return c == '\'' || c == '\\' }
