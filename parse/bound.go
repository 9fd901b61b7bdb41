package parse

import "kiln/api"

// bound holds a token that is taken against the bounds of its own length and of
// how many brackets it stands in.
func (p *parser) bound(token api.Token) {
	switch token.Kind {
	case api.TokName, api.TokKeyword:
		p.most(token, api.MaxName)
	case api.TokSymbol:
		p.most(token, api.MaxSelector)
	case api.TokText:
		p.most(token, api.MaxText)
	case api.TokOpen, api.TokBlock, api.TokHash:
		if p.open >= api.MaxNest {
			p.pass(api.ErrDeep, token.At)
		}
		p.open++
	case api.TokClose, api.TokEndBlock:
		p.open--
	}
}

func (p *parser) most(token api.Token, length int) {
	if len(token.Text) > length {
		p.pass(api.ErrLong, token.At)
	}
}

// pass tells that a bound is passed at a place. Some bounds are looked at when
// the tokens behind that place are read already; of two at one place the one
// that is told first stays, and brackets are told when they are taken, ahead of
// all else.
func (p *parser) pass(code api.Errno, at int) {
	if p.passed.Code == api.OK || at < p.passed.At {
		p.passed = api.Fault{Code: code, At: at}
	}
}
