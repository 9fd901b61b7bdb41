package parse

import (
	"strconv"
	"strings"

	"kiln/api"
	"kiln/lex"
)

// writer gathers the text of a tree, no more of it than tells whether it is too long.
type writer struct {
	text strings.Builder
}

// textOf is the text of a tree; if that is longer than a source may be, a
// beginning of it that is too long as well.
func textOf(s api.Source) string {
	w := &writer{}
	w.head(s.Selector, s.Names[:s.Params])
	w.rest(s.Selector != "", s.Names[s.Params:], s.Body)
	return w.text.String()
}

func (w *writer) add(s string) {
	if w.text.Len() <= api.MaxSource {
		w.text.WriteString(s)
	}
}

// between adds what stands between two things of a list, ahead of the thing i.
func (w *writer) between(i int, s string) {
	if i > 0 {
		w.add(s)
	}
}

// wordOf is the text of one token, as lex writes it.
func wordOf(token api.Token) (string, api.Errno) {
	return lex.Print([]api.Token{token, {Kind: api.TokStop}})
}

func (w *writer) word(kind int, text string) {
	word, _ := wordOf(api.Token{Kind: kind, Text: text})
	w.add(word)
}

func (w *writer) head(selector string, params []string) {
	w.worded(selector, func(i int) { w.add(params[i]) })
}

// worded writes a selector with one thing behind each of its words that asks for one.
func (w *writer) worded(selector string, thing func(i int)) {
	switch rankOfSelector(selector) {
	case unary:
		w.add(selector)
	case binary:
		w.add(selector + " ")
		thing(0)
	case keyword:
		i := 0
		for word := range strings.SplitSeq(strings.TrimSuffix(selector, ":"), ":") {
			w.between(i, " ")
			w.add(word + ": ")
			thing(i)
			i++
		}
	}
}

// rest writes temporaries and statements, with a blank ahead of each of the two
// that has something ahead of it.
func (w *writer) rest(behind bool, temporaries []string, statements []api.Node) {
	if len(temporaries) > 0 {
		w.blank(behind)
		w.add("|")
		for _, name := range temporaries {
			w.add(" " + name)
		}
		w.add(" |")
		behind = true
	}
	if len(statements) > 0 {
		w.blank(behind)
		w.list(statements, ". ")
	}
}

func (w *writer) blank(there bool) {
	if there {
		w.add(" ")
	}
}

func (w *writer) list(nodes []api.Node, between string) {
	for i := range nodes {
		w.between(i, between)
		w.node(&nodes[i])
	}
}

func (w *writer) node(n *api.Node) {
	switch n.Kind {
	case api.NodeInt:
		w.add(strconv.Itoa(n.Number))
	case api.NodeText:
		w.word(api.TokText, n.Text)
	case api.NodeSymbol:
		w.word(api.TokSymbol, n.Text)
	case api.NodeArray:
		w.add("#(")
		w.list(n.Kids, " ")
		w.add(")")
	case api.NodeConst, api.NodeName:
		w.add(n.Text)
	case api.NodeSuper:
		w.add(superName)
	case api.NodeAssign:
		w.add(n.Text + " := ")
		w.node(&n.Kids[0])
	case api.NodeSend:
		w.receiver(&n.Kids[0], n.Text)
		w.message(n.Text, n.Kids[1:])
	case api.NodeCascade:
		w.receiver(&n.Kids[0], n.Kids[1].Text)
		w.list(n.Kids[1:], "; ")
	case api.NodeMessage:
		w.message(n.Text, n.Kids)
	case api.NodeBlock:
		w.block(n)
	case api.NodeReturn:
		w.add("^")
		w.node(&n.Kids[0])
	}
}

func (w *writer) block(n *api.Node) {
	w.add("[")
	for i, name := range n.Names[:n.Number] {
		w.between(i, " ")
		w.add(":" + name)
	}
	if n.Number > 0 {
		w.add(" |")
	}
	w.rest(n.Number > 0, n.Names[n.Number:], n.Kids)
	w.add("]")
}

func (w *writer) receiver(n *api.Node, selector string) {
	w.operand(n, mostOfReceiver(rankOfSelector(selector)))
	w.add(" ")
}

func (w *writer) message(selector string, arguments []api.Node) {
	most := mostOfArgument(rankOfSelector(selector))
	w.worded(selector, func(i int) { w.operand(&arguments[i], most) })
}

// operand writes an expression, in brackets if it ranks above most.
func (w *writer) operand(n *api.Node, most int) {
	if rankOf(n) <= most {
		w.node(n)
		return
	}
	w.add("(")
	w.node(n)
	w.add(")")
}
