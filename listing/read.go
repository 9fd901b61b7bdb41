package listing

import (
	"strconv"
	"strings"

	"kiln/api"
)

// reader reads a listing line by line, and each line from its front on.
type reader struct {
	code     api.Code
	text     string // the lines that are not taken yet
	taken    int    // how many lines are
	rest     string // what of the line that is being read is not read yet
	elements int    // how many were met in arrays
}

// listing tells whether all lines were taken. Lines that were are a listing, too,
// whatever stands behind them: so the first one that was not is the one that is wrong.
func (r *reader) listing() bool {
	if !r.line(r.head) {
		return false
	}
	r.lines(r.literal)
	r.lines(r.instruction)
	return r.text == ""
}

// lines takes lines as long as they are what read reads.
func (r *reader) lines(read func() bool) {
	for r.line(read) {
	}
}

// line takes a line if it is what read reads, and no more.
func (r *reader) line(read func() bool) bool {
	line, behind, ended := strings.Cut(r.text, "\n")
	if !ended {
		return false
	}
	r.rest = line
	if !read() || r.rest != "" {
		return false
	}
	r.text = behind
	r.taken++
	return true
}

// token reads a piece of text, if the rest begins with it.
func (r *reader) token(piece string) bool {
	behind, there := strings.CutPrefix(r.rest, piece)
	r.rest = behind
	return there
}

func (r *reader) head() bool {
	if !r.token(headWord) {
		return false
	}
	numbers, ok := r.numbers(3)
	if !ok {
		return false
	}
	r.code.Args, r.code.Temps, r.code.Stack = numbers[0], numbers[1], numbers[2]
	return true
}

func (r *reader) literal() bool {
	switch {
	case len(r.code.Literals) == api.MaxLiterals:
		return false
	case r.token(textWord):
		return r.object(r.quoted)
	case r.token(arrayWord):
		return r.object(r.array)
	}
	return false
}

func (r *reader) object(read func() (api.Lit, bool)) bool {
	l, ok := read()
	r.code.Literals = append(r.code.Literals, l)
	return ok
}

func (r *reader) instruction() bool {
	place, ok := r.number()
	if !ok || place != len(r.code.Words) || !r.token(" ") {
		return false
	}
	op, ok := r.operation()
	if !ok || place+1+operations[op].operands > api.MaxCode {
		return false
	}
	operands, ok := r.numbers(operations[op].operands)
	r.code.Words = append(append(r.code.Words, op), operands...)
	return ok
}

// operation reads the name of one: it ends where a blank or nothing is behind it.
func (r *reader) operation() (int, bool) {
	name, _, _ := strings.Cut(r.rest, " ")
	r.rest = r.rest[len(name):]
	op := numberOf(name)
	return op, isOperation(op)
}

// numbers reads so many, with one blank ahead of each.
func (r *reader) numbers(count int) ([]int, bool) {
	var out []int
	for range count {
		if !r.token(" ") {
			return nil, false
		}
		n, ok := r.number()
		if !ok {
			return nil, false
		}
		out = append(out, n)
	}
	return out, true
}

// number reads one in the one way in which it is written.
func (r *reader) number() (int, bool) {
	behind := strings.TrimLeft(r.rest, "-0123456789")
	written := r.rest[:len(r.rest)-len(behind)]
	n, err := strconv.Atoi(written)
	if err != nil || strconv.Itoa(n) != written {
		return 0, false
	}
	r.rest = behind
	return n, true
}
