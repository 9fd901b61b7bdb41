package scope

import (
	"slices"
	"strings"

	"kiln/api"
)

// expression is a node of a tree, wrapped by a type that knows how its kind is
// walked through.
type expression interface {
	walk(w *walker) api.Bound
}

type (
	integer      struct{ *api.Node }
	text         struct{ *api.Node }
	symbol       struct{ *api.Node }
	array        struct{ *api.Node }
	constant     struct{ *api.Node }
	name         struct{ *api.Node }
	super        struct{ *api.Node }
	assignment   struct{ *api.Node }
	send         struct{ *api.Node }
	superSend    struct{ *api.Node }
	condition    struct{ *api.Node } // an inlined send that chooses
	loop         struct{ *api.Node } // an inlined send that goes round as long as it is told to
	count        struct{ *api.Node } // an inlined send that goes round from a number to another
	cascade      struct{ *api.Node }
	message      struct{ *api.Node }
	superMessage struct{ *api.Node }
	block        struct{ *api.Node } // a real one
	body         struct{ *api.Node } // an inlined block
	result       struct{ *api.Node }
)

func wrap(n *api.Node) expression {
	switch n.Kind {
	case api.NodeInt:
		return integer{n}
	case api.NodeText:
		return text{n}
	case api.NodeSymbol:
		return symbol{n}
	case api.NodeArray:
		return array{n}
	case api.NodeConst:
		return constant{n}
	case api.NodeName:
		return name{n}
	case api.NodeSuper:
		return super{n}
	case api.NodeAssign:
		return assignment{n}
	case api.NodeCascade:
		return cascade{n}
	case api.NodeBlock:
		return block{n}
	case api.NodeReturn:
		return result{n}
	}
	return wrapSend(n)
}

func wrapSend(n *api.Node) expression {
	arguments := n.Kids[1:]
	switch {
	case isSuper(n):
		return superSend{n}
	case conditionNumber(n.Text) != 0 && areBlocks(arguments, 0):
		return condition{n}
	case loopNumber(n.Text) != 0 && areBlocks(n.Kids, 0):
		return loop{n}
	case n.Text == "to:do:" && areBlocks(arguments[1:], 1):
		return count{n}
	}
	return send{n}
}

func wrapMessage(n *api.Node) expression { return message{n} }

func wrapSuperMessage(n *api.Node) expression { return superMessage{n} }

func wrapBody(n *api.Node) expression { return body{n} }

// isSuper tells whether a send or a cascade has super as its receiver.
func isSuper(n *api.Node) bool { return n.Kids[0].Kind == api.NodeSuper }

func areBlocks(nodes []api.Node, params int) bool {
	return !slices.ContainsFunc(nodes, func(n api.Node) bool { return n.Kind != api.NodeBlock || n.Number != params })
}

// conditionNumber is the Number of a BoundIf with this selector; 0: there is none.
func conditionNumber(selector string) int {
	switch selector {
	case "ifTrue:":
		return 1
	case "ifFalse:":
		return 2
	case "ifTrue:ifFalse:":
		return 3
	case "ifFalse:ifTrue:":
		return 4
	case "and:":
		return 5
	case "or:":
		return 6
	}
	return 0
}

// loopNumber is the Number of a BoundWhile with this selector; 0: there is none.
func loopNumber(selector string) int {
	switch selector {
	case "whileTrue:":
		return 1
	case "whileFalse:":
		return 2
	}
	return 0
}

func (n integer) walk(*walker) api.Bound {
	return api.Bound{Kind: api.BoundInt, Number: n.Number, At: n.At}
}

func (n text) walk(*walker) api.Bound {
	return api.Bound{Kind: api.BoundText, Text: strings.Clone(n.Text), At: n.At}
}

func (n symbol) walk(*walker) api.Bound {
	return api.Bound{Kind: api.BoundSymbol, Text: strings.Clone(n.Text), At: n.At}
}

func (n array) walk(w *walker) api.Bound {
	return api.Bound{Kind: api.BoundArray, At: n.At, Kids: w.all(n.Kids, wrap)}
}

func (n constant) walk(*walker) api.Bound {
	b := api.Bound{Kind: api.BoundNil, At: n.At}
	switch n.Text {
	case "true":
		b.Kind = api.BoundTrue
	case "false":
		b.Kind = api.BoundFalse
	}
	return b
}

func (n name) walk(w *walker) api.Bound {
	if n.Text == "self" {
		return api.Bound{Kind: api.BoundSelf, At: n.At}
	}
	m := w.meaningOf(n.Text)
	if m == (meaning{}) {
		w.refuse(api.ErrUnknown, n.At)
	}
	return w.bound(n.Node, m)
}

// A super that is walked through is the receiver of a cascade.
func (n super) walk(*walker) api.Bound {
	return api.Bound{Kind: api.BoundSelf, At: n.At}
}

func (n assignment) walk(w *walker) api.Bound {
	m := w.meaningOf(n.Text)
	switch {
	case isReserved(n.Text) || m.param || m.kind == api.BoundClass:
		w.refuse(api.ErrStore, n.At)
	case m == (meaning{}):
		w.refuse(api.ErrUnknown, n.At)
	}
	kids := append([]api.Bound{w.bound(n.Node, m)}, w.all(n.Kids, wrap)...)
	return api.Bound{Kind: api.BoundAssign, At: n.At, Kids: kids}
}

func (n send) walk(w *walker) api.Bound {
	return api.Bound{Kind: api.BoundSend, Text: strings.Clone(n.Text), At: n.At, Kids: w.all(n.Kids, wrap)}
}

func (n superSend) walk(w *walker) api.Bound {
	return api.Bound{Kind: api.BoundSuper, Text: strings.Clone(n.Text), At: n.At, Kids: w.all(n.Kids[1:], wrap)}
}

func (n condition) walk(w *walker) api.Bound {
	kids := append(w.all(n.Kids[:1], wrap), w.all(n.Kids[1:], wrapBody)...)
	return api.Bound{Kind: api.BoundIf, Number: conditionNumber(n.Text), At: n.At, Kids: kids}
}

func (n loop) walk(w *walker) api.Bound {
	return api.Bound{Kind: api.BoundWhile, Number: loopNumber(n.Text), At: n.At, Kids: w.all(n.Kids, wrapBody)}
}

func (n count) walk(w *walker) api.Bound {
	kids := w.all(n.Kids[:2], wrap)
	// The block's parameter is the next name that is met.
	slot := w.real.slots
	kids = append(kids, w.all(n.Kids[2:], wrapBody)...)
	return api.Bound{Kind: api.BoundToDo, Index: slot, At: n.At, Kids: kids}
}

func (n cascade) walk(w *walker) api.Bound {
	wrapped := wrapMessage
	if isSuper(n.Node) {
		wrapped = wrapSuperMessage
	}
	kids := append(w.all(n.Kids[:1], wrap), w.all(n.Kids[1:], wrapped)...)
	return api.Bound{Kind: api.BoundCascade, At: n.At, Kids: kids}
}

func (n message) walk(w *walker) api.Bound {
	return api.Bound{Kind: api.BoundSend, Text: strings.Clone(n.Text), At: n.At, Kids: w.all(n.Kids, wrap)}
}

func (n superMessage) walk(w *walker) api.Bound {
	return api.Bound{Kind: api.BoundSuper, Text: strings.Clone(n.Text), At: n.At, Kids: w.all(n.Kids, wrap)}
}

func (n block) walk(w *walker) api.Bound {
	around := w.real
	w.real = realScope{level: around.level + 1}
	w.enter(n.Names, n.Places, n.Number)
	kids := w.all(n.Kids, wrap)
	w.leave(n.Names)
	slots := w.real.slots
	w.real = around
	return api.Bound{Kind: api.BoundBlock, At: n.At, Params: n.Number, Slots: slots, Kids: kids}
}

func (n body) walk(w *walker) api.Bound {
	first := w.real.slots + n.Number
	w.enter(n.Names, n.Places, n.Number)
	var temporaries []int
	for slot := first; slot < w.real.slots; slot++ {
		temporaries = append(temporaries, slot)
	}
	kids := w.all(n.Kids, wrap)
	w.leave(n.Names)
	return api.Bound{Kind: api.BoundBody, At: n.At, Clear: temporaries, Kids: kids}
}

func (n result) walk(w *walker) api.Bound {
	return api.Bound{Kind: api.BoundReturn, Depth: w.real.level, At: n.At, Kids: w.all(n.Kids, wrap)}
}
