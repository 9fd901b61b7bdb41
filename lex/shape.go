package lex

import (
	"strconv"
	"strings"

	"kiln/api"
)

const (
	mostNumber = 1 << 30
	operators  = `+-*/\<>=~,%&?@`
)

// mark is a token that has neither Text nor Number.
type mark struct {
	kind int
	text string
}

// marks has the longer one ahead of one that it begins with.
var marks = [...]mark{
	{api.TokHash, "#("},
	{api.TokAssign, ":="},
	{api.TokOpen, "("},
	{api.TokClose, ")"},
	{api.TokBlock, "["},
	{api.TokEndBlock, "]"},
	{api.TokBar, "|"},
	{api.TokColon, ":"},
	{api.TokReturn, "^"},
	{api.TokDot, "."},
	{api.TokCascade, ";"},
}

func isLetter(r rune) bool { return r >= 'a' && r <= 'z' || r >= 'A' && r <= 'Z' }

func isDigit(r rune) bool { return r >= '0' && r <= '9' }

func isOperatorByte(b byte) bool { return strings.IndexByte(operators, b) >= 0 }

func isReserved(s string) bool {
	switch s {
	case "self", "super", "nil", "true", "false":
		return true
	}
	return false
}

func isName(s string) bool { return s != "" && nameLength(s) == len(s) }

func isSmall(s string) bool { return s != "" && s[0] >= 'a' && s[0] <= 'z' }

func isOperator(s string) bool { return s != "" && operatorLength(s) == len(s) }

func isSymbol(s string) bool { return s != "" && symbolLength(s) == len(s) }

// nameLength is how long the name is that a text begins with; 0: there is none.
func nameLength(s string) int {
	for i, r := range s {
		if !isLetter(r) && (i == 0 || !isDigit(r)) {
			return i
		}
	}
	return len(s)
}

func digitsLength(s string) int {
	for i, r := range s {
		if !isDigit(r) {
			return i
		}
	}
	return len(s)
}

// operatorLength is how long the operator is that a text begins with; 0: there is none.
func operatorLength(s string) int {
	switch {
	case s == "" || !isOperatorByte(s[0]):
		return 0
	case len(s) == 1 || !isOperatorByte(s[1]) || s[0] == '-' || s[1] == '-':
		return 1
	}
	return 2
}

// keywordLength is how long the name is that a text begins with, the colon
// behind it counted; 0: there is no name, or its colon is that of an
// assignment, or it has none.
func keywordLength(s string) int {
	name := nameLength(s)
	behind := s[name:]
	if name == 0 || !strings.HasPrefix(behind, ":") || strings.HasPrefix(behind, ":=") {
		return 0
	}
	return name + 1
}

// symbolLength is how long the symbol is that a text (behind its #) begins
// with: keywords as many as stand there, or a name, or an operator; 0: there
// is none.
func symbolLength(s string) int {
	length := 0
	for next := keywordLength(s); next > 0; next = keywordLength(s[length:]) {
		length += next
	}
	if length > 0 {
		return length
	}
	return max(nameLength(s), operatorLength(s))
}

// canBe tells whether a source can have a token with this Text and this Number.
func canBe(t api.Token) bool {
	if t.Kind != api.TokInt && t.Number != 0 {
		return false
	}
	switch t.Kind {
	case api.TokName, api.TokKeyword:
		return isName(t.Text)
	case api.TokBinary:
		return isOperator(t.Text)
	case api.TokInt:
		return t.Text == "" && t.Number >= 0 && t.Number <= mostNumber
	case api.TokSymbol:
		return isSymbol(t.Text)
	case api.TokText:
		return true
	}
	return t.Text == "" && t.Kind >= api.TokHash && t.Kind <= api.TokStop
}

// written is a token's own text.
func written(t api.Token) string {
	switch t.Kind {
	case api.TokName, api.TokBinary:
		return t.Text
	case api.TokKeyword:
		return t.Text + ":"
	case api.TokInt:
		return strconv.Itoa(t.Number)
	case api.TokSymbol:
		return "#" + t.Text
	case api.TokText:
		return "'" + strings.ReplaceAll(t.Text, "'", "''") + "'"
	}
	for _, m := range marks {
		if m.kind == t.Kind {
			return m.text
		}
	}
	return ""
}
