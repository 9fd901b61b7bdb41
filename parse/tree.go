package parse

import (
	"strings"

	"kiln/api"
	"kiln/lex"
)

// The ranks of expressions: what is sent last ranks above what is sent ahead of it.
const (
	none    = iota // no message at all
	unary          // a message without an argument
	binary         // an operator
	keyword        // keywords
	loose          // an assignment, a cascade
)

const (
	selfName  = "self"
	superName = "super"
	minus     = "-"
)

// mostOfReceiver is the highest rank that a receiver of a message of this rank
// has without brackets.
func mostOfReceiver(rank int) int { return min(rank, binary) }

// mostOfArgument is the highest rank that an argument of a message of this rank
// has without brackets.
func mostOfArgument(rank int) int { return rank - 1 }

// rankOfSelector is the rank of a message with this selector; none: it is no selector.
func rankOfSelector(s string) int {
	count, e := lex.Selector(s)
	switch {
	case e != api.OK:
		return none
	case count == 0:
		return unary
	case strings.HasSuffix(s, ":"):
		return keyword
	}
	return binary
}

// rankOfToken is the rank of the message that begins with this token; none: none does.
func rankOfToken(token api.Token) int {
	switch token.Kind {
	case api.TokName, api.TokBinary:
		return rankOfSelector(token.Text)
	case api.TokKeyword:
		return rankOfSelector(token.Text + ":")
	}
	return none
}

func rankOf(n *api.Node) int {
	switch n.Kind {
	case api.NodeSend:
		return rankOfSelector(n.Text)
	case api.NodeAssign, api.NodeCascade:
		return loose
	}
	return none
}

func isConst(s string) bool { return s == "nil" || s == "true" || s == "false" }

// isName tells of any name, reserved words too.
func isName(s string) bool { return len(s) <= api.MaxName && lex.Variable(s) != api.ErrArg }

func areNames(list []string) bool {
	for _, s := range list {
		if !isName(s) {
			return false
		}
	}
	return true
}

func isSymbol(s string) bool {
	_, e := wordOf(api.Token{Kind: api.TokSymbol, Text: s})
	return len(s) <= api.MaxSelector && e == api.OK
}

// takes is how many arguments a selector takes; ok tells whether a source can have it.
func takes(selector string) (count int, ok bool) {
	if len(selector) > api.MaxSelector {
		return 0, false
	}
	count, e := lex.Selector(selector)
	if e != api.OK || count > api.MaxArgs {
		return 0, false
	}
	for word := range strings.SplitSeq(selector, ":") {
		if len(word) > api.MaxName {
			return 0, false
		}
	}
	return count, true
}

// has is what a kind of node has; what it has not is zero in each of its kind.
type has struct {
	text, number, names, kids bool
}

var kinds = [...]has{
	api.NodeInt:     {number: true},
	api.NodeText:    {text: true},
	api.NodeSymbol:  {text: true},
	api.NodeArray:   {kids: true},
	api.NodeConst:   {text: true},
	api.NodeName:    {text: true},
	api.NodeSuper:   {},
	api.NodeAssign:  {text: true, kids: true},
	api.NodeSend:    {text: true, kids: true},
	api.NodeCascade: {kids: true},
	api.NodeMessage: {text: true, kids: true},
	api.NodeBlock:   {number: true, names: true, kids: true},
	api.NodeReturn:  {kids: true},
}

// isKind tells whether a node is of this kind, and has nothing that its kind has not.
func isKind(n *api.Node, kind int) bool {
	its := kinds[kind]
	return n.Kind == kind && (its.text || n.Text == "") && (its.number || n.Number == 0) &&
		(its.names || len(n.Names) == 0) && (its.kids || len(n.Kids) == 0)
}

// isTree tells whether there is a source, however long, that is read as this tree.
func isTree(s api.Source) bool {
	params := 0
	if s.Selector != "" {
		count, ok := takes(s.Selector)
		if !ok {
			return false
		}
		params = count
	}
	return s.Params == params && params <= len(s.Names) && areNames(s.Names) && isBody(s.Body, 0)
}

// isBody tells whether these are statements, within so many brackets.
func isBody(statements []api.Node, open int) bool {
	for i := range statements {
		n := &statements[i]
		if n.Kind == api.NodeReturn && i == len(statements)-1 {
			if !isKind(n, api.NodeReturn) || len(n.Kids) != 1 {
				return false
			}
			n = &n.Kids[0]
		}
		if !isExpression(n, open) {
			return false
		}
	}
	return true
}

func isExpression(n *api.Node, open int) bool {
	switch n.Kind {
	case api.NodeName:
		return isKind(n, api.NodeName) && isName(n.Text) && (n.Text == selfName || lex.Variable(n.Text) == api.OK)
	case api.NodeAssign:
		return isKind(n, api.NodeAssign) && isName(n.Text) && len(n.Kids) == 1 && isExpression(&n.Kids[0], open)
	case api.NodeSend:
		return isKind(n, api.NodeSend) && len(n.Kids) > 0 && isMessage(n.Text, n.Kids[1:], open) &&
			isReceiver(&n.Kids[0], rankOfSelector(n.Text), open)
	case api.NodeCascade:
		return isCascade(n, open)
	case api.NodeBlock:
		return isBlock(n, open)
	}
	return isLiteral(n, open)
}

func isCascade(n *api.Node, open int) bool {
	if !isKind(n, api.NodeCascade) || len(n.Kids) < 3 {
		return false
	}
	messages := n.Kids[1:]
	for i := range messages {
		m := &messages[i]
		if !isKind(m, api.NodeMessage) || !isMessage(m.Text, m.Kids, open) {
			return false
		}
	}
	return isReceiver(&n.Kids[0], rankOfSelector(messages[0].Text), open)
}

func isMessage(selector string, arguments []api.Node, open int) bool {
	count, ok := takes(selector)
	if !ok || len(arguments) != count {
		return false
	}
	most := mostOfArgument(rankOfSelector(selector))
	for i := range arguments {
		if !isOperand(&arguments[i], most, open) {
			return false
		}
	}
	return true
}

func isReceiver(n *api.Node, rank, open int) bool {
	return isKind(n, api.NodeSuper) || isOperand(n, mostOfReceiver(rank), open)
}

// isOperand tells whether this is an expression where brackets stand around one
// that ranks above most.
func isOperand(n *api.Node, most, open int) bool {
	if rankOf(n) > most {
		open++
	}
	return open <= api.MaxNest && isExpression(n, open)
}

func isBlock(n *api.Node, open int) bool {
	return isKind(n, api.NodeBlock) && open < api.MaxNest && n.Number >= 0 && n.Number <= min(api.MaxArgs, len(n.Names)) &&
		areNames(n.Names) && isBody(n.Kids, open+1)
}

func isLiteral(n *api.Node, open int) bool {
	switch n.Kind {
	case api.NodeInt:
		return isKind(n, api.NodeInt) && n.Number >= api.LeastInt && n.Number <= api.MostInt
	case api.NodeText:
		return isKind(n, api.NodeText) && len(n.Text) <= api.MaxText
	case api.NodeSymbol:
		return isKind(n, api.NodeSymbol) && isSymbol(n.Text)
	case api.NodeConst:
		return isKind(n, api.NodeConst) && isConst(n.Text)
	case api.NodeArray:
		return isKind(n, api.NodeArray) && open < api.MaxNest && areElements(n.Kids, open+1)
	}
	return false
}

func areElements(list []api.Node, open int) bool {
	if len(list) > api.MaxArray {
		return false
	}
	for i := range list {
		if !isLiteral(&list[i], open) {
			return false
		}
	}
	return true
}
