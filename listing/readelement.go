package listing

import (
	"strings"

	"kiln/api"
)

func (r *reader) element() (api.Lit, bool) {
	read := r.ahead()
	return read()
}

// ahead is the call that reads what begins here, if it is an element: by its
// first byte each is told from the others.
func (r *reader) ahead() func() (api.Lit, bool) {
	switch r.first() {
	case '\'':
		return r.quoted
	case '(':
		return r.array
	case '#':
		return r.symbol
	case 'n', 't', 'f':
		return r.constant
	}
	return r.integer
}

// first is the first byte of the rest; a line has no newline in it, so that one
// stands for its end.
func (r *reader) first() byte {
	if r.rest == "" {
		return '\n'
	}
	return r.rest[0]
}

func (r *reader) integer() (api.Lit, bool) {
	n, ok := r.number()
	return api.Lit{Kind: api.LitInt, Number: n}, ok
}

func (r *reader) symbol() (api.Lit, bool) {
	marked := r.token("#")
	n, ok := r.number()
	return api.Lit{Kind: api.LitSymbol, Number: n}, marked && ok
}

func (r *reader) constant() (api.Lit, bool) {
	switch {
	case r.token(nilWord):
		return api.Lit{Kind: api.LitNil}, true
	case r.token(trueWord):
		return api.Lit{Kind: api.LitTrue}, true
	case r.token(falseWord):
		return api.Lit{Kind: api.LitFalse}, true
	}
	return api.Lit{}, false
}

// array counts its elements ahead of reading them: so no line, however many
// brackets it opens, goes deeper than there may be elements.
func (r *reader) array() (api.Lit, bool) {
	if !r.token("(") {
		return api.Lit{}, false
	}
	l := api.Lit{Kind: api.LitArray}
	for !r.token(")") {
		if len(l.Items) > 0 && !r.token(" ") || len(l.Items) == api.MaxArray || r.elements == api.MaxCode {
			return api.Lit{}, false
		}
		r.elements++
		x, ok := r.element()
		if !ok {
			return api.Lit{}, false
		}
		l.Items = append(l.Items, x)
	}
	return l, true
}

func (r *reader) quoted() (api.Lit, bool) {
	if !r.token("'") {
		return api.Lit{}, false
	}
	var text []byte
	for !r.token("'") {
		c, ok := r.oneByte()
		if !ok || len(text) == api.MaxText {
			return api.Lit{}, false
		}
		text = append(text, c)
	}
	return api.Lit{Kind: api.LitText, Text: string(text)}, true
}

// oneByte reads one of a text, in the one way in which it is written.
func (r *reader) oneByte() (byte, bool) {
	if r.token("\\x") {
		return r.hidden()
	}
	marked := r.token("\\")
	c := r.first()
	if marked && !isMark(c) || !marked && !isPlain(c) {
		return 0, false
	}
	r.rest = r.rest[1:]
	return c, true
}

// hidden reads the digits of a byte that is not written as it stands.
func (r *reader) hidden() (byte, bool) {
	if len(r.rest) < 2 {
		return 0, false
	}
	high, low := strings.IndexByte(digits, r.rest[0]), strings.IndexByte(digits, r.rest[1])
	if high < 0 || low < 0 {
		return 0, false
	}
	c := byte(high<<4 | low)
	r.rest = r.rest[2:]
	return c, !isPlain(c) && !isMark(c)
}
