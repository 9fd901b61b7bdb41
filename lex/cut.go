package lex

import (
	"strings"

	"kiln/api"
)

// The kinds of bytes, by what begins with them.
const (
	byteOther = iota
	byteBlank
	byteComment
	byteLetter
	byteDigit
	byteHash
	byteOperator
	byteQuote
	byteMark
	byteKinds
)

func kindOf(b byte) int {
	switch b {
	case ' ', '\t', '\n', '\r':
		return byteBlank
	case '"':
		return byteComment
	case '#':
		return byteHash
	case '\'':
		return byteQuote
	case '(', ')', '[', ']', '|', ':', '^', '.', ';':
		return byteMark
	}
	switch {
	case isLetter(rune(b)):
		return byteLetter
	case isDigit(rune(b)):
		return byteDigit
	case isOperatorByte(b):
		return byteOperator
	}
	return byteOther
}

// opening is what begins with a kind of byte: cut takes it off the beginning
// of what is left of the source, and tells how many bytes it has, 0 if nothing
// begins there; what is passed over is no token.
type opening struct {
	cut    func(rest string) (api.Token, int)
	passed bool
}

func openings() [byteKinds]opening {
	return [byteKinds]opening{
		byteOther:    {cut: cutNothing},
		byteBlank:    {cut: cutBlank, passed: true},
		byteComment:  {cut: cutComment, passed: true},
		byteLetter:   {cut: cutWord},
		byteDigit:    {cut: cutInt},
		byteHash:     {cut: cutHash},
		byteOperator: {cut: cutBinary},
		byteQuote:    {cut: cutText},
		byteMark:     {cut: cutMark},
	}
}

func cutNothing(string) (api.Token, int) { return api.Token{}, 0 }

func cutBlank(string) (api.Token, int) { return api.Token{}, 1 }

func cutComment(rest string) (api.Token, int) {
	inner := strings.IndexByte(rest[1:], '"')
	if inner < 0 {
		return cutNothing(rest)
	}
	return api.Token{}, inner + 2
}

func cutWord(rest string) (api.Token, int) {
	name := nameLength(rest)
	if length := keywordLength(rest); length > 0 {
		return api.Token{Kind: api.TokKeyword, Text: rest[:name]}, length
	}
	return api.Token{Kind: api.TokName, Text: rest[:name]}, name
}

func cutInt(rest string) (api.Token, int) {
	length := digitsLength(rest)
	number := 0
	for _, r := range rest[:length] {
		digit := int(r - '0')
		// Asked ahead of the step, so that no run of digits wraps round.
		if number > (mostNumber-digit)/10 {
			return cutNothing(rest)
		}
		number = number*10 + digit
	}
	return api.Token{Kind: api.TokInt, Number: number}, length
}

func cutHash(rest string) (api.Token, int) {
	length := symbolLength(rest[1:])
	if length == 0 {
		return cutMark(rest)
	}
	return api.Token{Kind: api.TokSymbol, Text: rest[1 : 1+length]}, 1 + length
}

func cutBinary(rest string) (api.Token, int) {
	length := operatorLength(rest)
	return api.Token{Kind: api.TokBinary, Text: rest[:length]}, length
}

func cutText(rest string) (api.Token, int) {
	for i := 1; i < len(rest); i++ {
		if rest[i] != '\'' {
			continue
		}
		if i+1 == len(rest) || rest[i+1] != '\'' {
			says := strings.ReplaceAll(rest[1:i], "''", "'")
			return api.Token{Kind: api.TokText, Text: says}, i + 1
		}
		i++
	}
	return cutNothing(rest)
}

func cutMark(rest string) (api.Token, int) {
	for _, m := range marks {
		if strings.HasPrefix(rest, m.text) {
			return api.Token{Kind: m.kind}, len(m.text)
		}
	}
	return cutNothing(rest)
}
