package script

import "strings"

// What a byte word is made of.
const (
	plainBytes = "abcdefghijklmnopqrstuvwxyzABCDEFGHIJKLMNOPQRSTUVWXYZ0123456789._-:^+[]()"
	byteMark   = '='
	hiddenMark = '%'
	hexDigits  = "0123456789abcdef"
)

// Where the reader of a byte word is.
const (
	atMark = iota // ahead of the word
	atByte        // ahead of a byte, or at the word's end
	atHigh        // behind the mark of a hidden byte
	atLow         // behind its first digit
)

// isPlain tells whether what a rune is written as stands for itself in a byte word.
func isPlain(r rune) bool { return strings.ContainsRune(plainBytes, r) }

// readText takes a text in the one way in which it is written. A byte word has no
// rune of more than one byte, so each that is taken is a byte.
func readText(word string) (string, bool) {
	text := make([]byte, 0, len(word))
	place, high := atMark, 0
	for _, r := range word {
		digit := strings.IndexRune(hexDigits, r)
		hidden := high<<4 | digit
		switch {
		case place == atMark && r == byteMark:
			place = atByte
		case place == atByte && r == hiddenMark:
			place = atHigh
		case place == atByte && isPlain(r):
			text = append(text, byte(r))
		case place == atHigh && digit >= 0:
			place, high = atLow, digit
		case place == atLow && digit >= 0 && !isPlain(rune(hidden)):
			place = atByte
			text = append(text, byte(hidden))
		default:
			return "", false
		}
	}
	return string(text), place == atByte
}
