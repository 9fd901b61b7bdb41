package gen

import (
	"strings"

	"kiln/api"
)

// literalKinds is by the kind of a node, as far as one may be an array's element,
// that of its literal.
var literalKinds = [...]int{
	api.BoundInt: api.LitInt, api.BoundText: api.LitText, api.BoundSymbol: api.LitSymbol, api.BoundArray: api.LitArray,
	api.BoundNil: api.LitNil, api.BoundTrue: api.LitTrue, api.BoundFalse: api.LitFalse,
}

func (g *maker) layLiteral(n *api.Bound) {
	place := len(g.code.Literals)
	if place >= api.MaxLiterals {
		refuse(api.ErrLong, n.At)
	}
	g.code.Literals = append(g.code.Literals, g.literal(n))
	g.put(n.At, api.OpLit, place)
}

// literal is that of a node that may be an element.
func (g *maker) literal(n *api.Bound) api.Lit {
	l := api.Lit{Kind: literalKinds[n.Kind]}
	switch n.Kind {
	case api.BoundInt:
		l.Number = n.Number
	case api.BoundText:
		l.Text = strings.Clone(n.Text)
	case api.BoundSymbol:
		l.Number = g.symbolOf(n)
	case api.BoundArray:
		for i := range n.Kids {
			l.Items = append(l.Items, g.element(&n.Kids[i]))
		}
	}
	return l
}

func (g *maker) element(n *api.Bound) api.Lit {
	if n.Kind >= len(literalKinds) {
		refuse(api.ErrTree, n.At)
	}
	g.look(n)
	if g.elements >= api.MaxCode {
		refuse(api.ErrLong, n.At)
	}
	g.elements++
	return g.literal(n)
}
