package script

import (
	"strconv"
	"strings"

	"kiln/api"
)

// Where the parser of a play is.
const (
	atRoom = iota // no line has said anything yet
	atActs
)

// parser reads a play, line by line.
type parser struct {
	play  api.Play
	place int
	said  int // how many lines have said something
}

// line reads one of the text's lines.
func (p *parser) line(line string) api.Errno {
	switch {
	case len(line) > MaxLine:
		return api.ErrLine
	case line == "" || line[0] == '#':
		return api.OK
	case p.said == MaxLines:
		return api.ErrLines
	}
	p.said++
	list := strings.Split(line, " ")
	if p.place == atRoom {
		p.place = atActs
		return p.room(list)
	}
	return p.act(list)
}

func (p *parser) room(list []string) api.Errno {
	switch {
	case list[0] != roomWord:
		return api.ErrText
	case len(list) != 3:
		return api.ErrWords
	}
	r := &reader{rest: list[1:]}
	r.number(&p.play.Words)
	r.number(&p.play.Oops)
	return r.answer()
}

func (p *parser) act(list []string) api.Errno {
	s, there := stepSaid(list[0])
	switch {
	case !there:
		return api.ErrStep
	case len(list) < s.count || len(list) > s.count && !s.more:
		return api.ErrWords
	}
	a := api.Act{Kind: s.kind}
	r := &reader{rest: list[1:]}
	s.read(r, &a)
	p.play.Acts = append(p.play.Acts, a)
	return r.answer()
}

// reader reads the words of a line, of which there are as many as are asked for.
type reader struct {
	rest  []string // the words that are not read yet
	wrong bool     // one of those that are is not of the kind that was asked for
}

func (r *reader) answer() api.Errno {
	if r.wrong {
		return api.ErrPlain
	}
	return api.OK
}

func (r *reader) next() string {
	word := r.rest[0]
	r.rest = r.rest[1:]
	return word
}

func (r *reader) text(field *string) {
	text, ok := readText(r.next())
	*field = text
	r.wrong = r.wrong || !ok
}

// texts reads all words that are left.
func (r *reader) texts(field *[]string) {
	for len(r.rest) > 0 {
		var s string
		r.text(&s)
		*field = append(*field, s)
	}
}

func (r *reader) number(field *int) {
	n, ok := readNumber(r.next())
	*field = n
	r.wrong = r.wrong || !ok
}

// readNumber takes a number in the one way in which it is written.
func readNumber(word string) (int, bool) {
	n, err := strconv.Atoi(word)
	return n, err == nil && strconv.Itoa(n) == word
}
