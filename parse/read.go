package parse

import (
	"slices"

	"kiln/api"
	"kiln/lex"
)

// parser goes through the tokens of a source, from the first one to TokStop.
type parser struct {
	tokens []api.Token
	at     int       // which token stands ahead
	open   int       // how many brackets are open
	passed api.Fault // the first, by its place, that passes a bound
}

// misplaced is what is thrown where a token may not stand.
type misplaced struct {
	token api.Token
}

// read is the tree of a source, which whole reads from its first token to its last.
func read(source string, whole func(*parser) api.Source) (tree api.Source, fault api.Fault) {
	tokens, fault := lex.Tokens(source)
	if fault.Code != api.OK {
		return api.Source{}, fault
	}
	defer func() {
		switch thrown := recover().(type) {
		case nil:
		case misplaced:
			fault = api.Fault{Code: api.ErrSyntax, At: thrown.token.At}
		default:
			panic(thrown)
		}
	}()
	p := &parser{tokens: tokens}
	tree = whole(p)
	// No bound is looked at ahead of the syntax of the whole source.
	if p.passed.Code != api.OK {
		return api.Source{}, p.passed
	}
	return tree, api.Fault{}
}

func (p *parser) ahead() api.Token { return p.tokens[p.at] }

func (p *parser) stands(kind int) bool { return p.ahead().Kind == kind }

func (p *parser) take() api.Token {
	token := p.ahead()
	p.bound(token)
	p.at++
	return token
}

// need takes a token of this kind; no other one may stand there.
func (p *parser) need(kind int) api.Token {
	if !p.stands(kind) {
		panic(misplaced{p.ahead()})
	}
	return p.take()
}

// skip takes a token of this kind, if one stands there.
func (p *parser) skip(kind int) bool {
	if !p.stands(kind) {
		return false
	}
	p.take()
	return true
}

// nothing stands between the things of most lists.
const nothing = 0

// list reads things as long as there are any, with a token of the kind between
// between each two; where none of that kind stands behind a thing, that was the
// last.
func list[T any](p *parser, between int, there func() bool, one func() T) []T {
	var things []T
	for there() {
		things = append(things, one())
		if between != nothing && !p.skip(between) {
			break
		}
	}
	return things
}

func (p *parser) method() api.Source {
	at := p.ahead().At
	selector, params := worded(p, func(int) api.Token { return p.need(api.TokName) })
	s := p.rest(params)
	s.Selector, s.At = selector, at
	return s
}

func (p *parser) doit() api.Source { return p.rest(nil) }

func (p *parser) rest(params []api.Token) api.Source {
	names, places := told(params, p.temporaries())
	return api.Source{Params: len(params), Names: names, Places: places, Body: p.body(api.TokStop)}
}

// told is the names that these tokens are, and their places.
func told(params, temporaries []api.Token) (names []string, places []int) {
	for _, token := range slices.Concat(params, temporaries) {
		names = append(names, token.Text)
		places = append(places, token.At)
	}
	return names, places
}

func (p *parser) temporaries() []api.Token {
	if !p.skip(api.TokBar) {
		return nil
	}
	names := list(p, nothing, func() bool { return p.stands(api.TokName) }, p.take)
	p.need(api.TokBar)
	return names
}

// body reads statements, and the token of the kind end behind them.
func (p *parser) body(end int) []api.Node {
	returned := false
	statements := list(p, api.TokDot, func() bool { return !p.stands(end) }, func() api.Node {
		if returned {
			panic(misplaced{p.ahead()})
		}
		statement := p.statement()
		returned = statement.Kind == api.NodeReturn
		return statement
	})
	p.need(end)
	return statements
}

func (p *parser) statement() api.Node {
	at := p.ahead().At
	if p.skip(api.TokReturn) {
		return api.Node{Kind: api.NodeReturn, At: at, Kids: []api.Node{p.expression()}}
	}
	return p.expression()
}

func (p *parser) expression() api.Node {
	if !p.stands(api.TokName) || p.tokens[p.at+1].Kind != api.TokAssign {
		return p.cascade()
	}
	name := p.take()
	p.take()
	return api.Node{Kind: api.NodeAssign, Text: name.Text, At: name.At, Kids: []api.Node{p.expression()}}
}

func (p *parser) cascade() api.Node {
	node, sent := p.sends(keyword)
	if !p.stands(api.TokCascade) {
		return node
	}
	if !sent {
		panic(misplaced{p.ahead()})
	}
	at := p.take().At
	receiver, first := unsend(node)
	messages := list(p, api.TokCascade, func() bool { return true }, p.message)
	return api.Node{Kind: api.NodeCascade, At: at, Kids: append([]api.Node{receiver, first}, messages...)}
}

// sends reads a primary and the messages to it, none above this rank, each the
// receiver of the next; it tells whether there was any.
func (p *parser) sends(most int) (node api.Node, sent bool) {
	node = p.primary(most)
	for rank := unary; rank <= most; rank++ {
		for rankOfToken(p.ahead()) == rank {
			node, sent = send(node, p.message()), true
		}
	}
	return node, sent
}

func send(receiver, message api.Node) api.Node {
	message.Kind = api.NodeSend
	message.Kids = append([]api.Node{receiver}, message.Kids...)
	return message
}

func unsend(node api.Node) (receiver, message api.Node) {
	message = node
	message.Kind = api.NodeMessage
	message.Kids = slices.Clone(node.Kids[1:])
	return node.Kids[0], message
}

func (p *parser) message() api.Node {
	at := p.ahead().At
	selector, arguments := worded(p, func(rank int) api.Node {
		argument, _ := p.sends(mostOfArgument(rank))
		return argument
	})
	return api.Node{Kind: api.NodeMessage, Text: selector, At: at, Kids: arguments}
}

// worded reads the words of a selector, with one thing behind each that asks
// for one: parameters in a head, arguments in a message.
func worded[T any](p *parser, one func(rank int) T) (selector string, things []T) {
	first := p.ahead()
	switch rank := rankOfToken(first); rank {
	case unary:
		return p.take().Text, nil
	case binary:
		return p.take().Text, []T{one(rank)}
	case keyword:
		return keywords(p, func() T { return one(rank) })
	}
	panic(misplaced{first})
}

func keywords[T any](p *parser, one func() T) (selector string, things []T) {
	var words []api.Token
	things = list(p, nothing, func() bool { return rankOfToken(p.ahead()) == keyword }, func() T {
		words = append(words, p.take())
		return one()
	})
	for i, word := range words {
		selector += word.Text + ":"
		if len(selector) > api.MaxSelector || i >= api.MaxArgs {
			p.pass(api.ErrLong, word.At)
		}
	}
	return selector, things
}

// primary reads what a message may be sent to; none above this rank is read behind it.
func (p *parser) primary(most int) api.Node {
	switch token := p.ahead(); token.Kind {
	case api.TokName:
		return p.named(most)
	case api.TokOpen:
		p.take()
		node := p.expression()
		p.need(api.TokClose)
		return node
	case api.TokBlock:
		return p.block()
	}
	return p.literal()
}

func (p *parser) named(most int) api.Node {
	name := p.take()
	switch {
	case isConst(name.Text):
		return api.Node{Kind: api.NodeConst, Text: name.Text, At: name.At}
	case name.Text != superName:
		return api.Node{Kind: api.NodeName, Text: name.Text, At: name.At}
	}
	if rank := rankOfToken(p.ahead()); rank == none || rank > most {
		panic(misplaced{name})
	}
	return api.Node{Kind: api.NodeSuper, At: name.At}
}

func (p *parser) block() api.Node {
	at := p.take().At
	params := list(p, nothing, func() bool { return p.skip(api.TokColon) }, func() api.Token { return p.need(api.TokName) })
	if len(params) > api.MaxArgs {
		p.pass(api.ErrLong, params[api.MaxArgs].At)
	}
	if len(params) > 0 && !p.stands(api.TokEndBlock) {
		p.need(api.TokBar)
	}
	names, places := told(params, p.temporaries())
	return api.Node{Kind: api.NodeBlock, Number: len(params), At: at, Names: names, Places: places, Kids: p.body(api.TokEndBlock)}
}

func (p *parser) literal() api.Node {
	token := p.ahead()
	switch token.Kind {
	case api.TokInt, api.TokBinary:
		return p.integer()
	case api.TokText:
		return api.Node{Kind: api.NodeText, Text: p.take().Text, At: token.At}
	case api.TokSymbol:
		return api.Node{Kind: api.NodeSymbol, Text: p.take().Text, At: token.At}
	case api.TokHash:
		return p.array()
	}
	panic(misplaced{token})
}

func (p *parser) integer() api.Node {
	first := p.take()
	if first.Kind == api.TokInt && first.Number <= api.MostInt {
		return api.Node{Kind: api.NodeInt, Number: first.Number, At: first.At}
	}
	if first.Text == minus && p.stands(api.TokInt) && p.ahead().At == first.At+len(minus) {
		return api.Node{Kind: api.NodeInt, Number: -p.take().Number, At: first.At}
	}
	panic(misplaced{first})
}

func (p *parser) array() api.Node {
	at := p.take().At
	elements := list(p, nothing, func() bool { return !p.stands(api.TokClose) }, p.element)
	if len(elements) > api.MaxArray {
		p.pass(api.ErrLong, elements[api.MaxArray].At)
	}
	p.need(api.TokClose)
	return api.Node{Kind: api.NodeArray, At: at, Kids: elements}
}

func (p *parser) element() api.Node {
	if token := p.ahead(); token.Kind == api.TokName && isConst(token.Text) {
		return p.named(none)
	}
	return p.literal()
}
