// Package word: the words of the machine, and its arithmetic: see DOC.md, layer 1.
package word

import (
	"strconv"

	"kiln/api"
)

// Kinds of words.
const (
	KindNone = iota // no word
	KindInt
	KindSymbol
	KindObject
)

// kindOfBits is the kind that a word's two lowest bits tell. An integer has
// two places, since it leaves the upper one of these bits to its number.
var kindOfBits = [4]int{KindObject, KindInt, KindSymbol, KindInt}

// numberBits is how many bits a number has.
const numberBits = 31

// Int is the word of a number.
func Int(n int) (api.Word, api.Errno) {
	if !inRange(n) {
		return 0, api.ErrArg
	}
	return intWord(n), api.OK
}

// Symbol is the word of a symbol's number.
func Symbol(s int) (api.Word, api.Errno) {
	if s < 0 || s >= api.MaxSymbols {
		return 0, api.ErrArg
	}
	return symbolWord(s), api.OK
}

// Object is the word of an oop.
func Object(k int) (api.Word, api.Errno) {
	if k < 1 || k > api.MaxOops {
		return 0, api.ErrArg
	}
	return objectWord(k), api.OK
}

func intWord(n int) api.Word { return api.Word(2*n + 1) }

func symbolWord(s int) api.Word { return api.Word(4*s + 2) }

func objectWord(k int) api.Word { return api.Word(4 * k) }

// Kind is which kind of word it is.
func Kind(w api.Word) int {
	kind := kindOfBits[w&3]
	least, most := span(kind)
	if w < least || w > most {
		return KindNone
	}
	return kind
}

// span is the least and the greatest word of a kind.
func span(kind int) (least, most api.Word) {
	switch kind {
	case KindInt:
		return intWord(api.LeastInt), intWord(api.MostInt)
	case KindSymbol:
		return symbolWord(0), symbolWord(api.MaxSymbols - 1)
	}
	return objectWord(1), objectWord(api.MaxOops)
}

// Num is the number of an integer's word.
func Num(w api.Word) (int, api.Errno) {
	if Kind(w) != KindInt {
		return 0, api.ErrWord
	}
	return int(w-1) / 2, api.OK
}

// Sym is the number of a symbol's word.
func Sym(w api.Word) (int, api.Errno) {
	if Kind(w) != KindSymbol {
		return 0, api.ErrWord
	}
	return int(w-2) / 4, api.OK
}

// Oop is the oop of an object's word.
func Oop(w api.Word) (int, api.Errno) {
	if Kind(w) != KindObject {
		return 0, api.ErrWord
	}
	return int(w) / 4, api.OK
}

// inRange tells whether an int is a number of the machine.
func inRange(n int) bool { return n >= api.LeastInt && n <= api.MostInt }

// Wrap is a number brought into range.
func Wrap(n int) int {
	// The lowest 31 bits go to the top of 32, so that coming back down
	// spreads the highest of them as the sign.
	return int(int32(uint32(n)<<1) >> 1)
}

// Add is the sum.
func Add(a, b int) (int, api.Errno) {
	if !inRange(a) || !inRange(b) {
		return 0, api.ErrArg
	}
	return Wrap(a + b), api.OK
}

// Sub is the difference.
func Sub(a, b int) (int, api.Errno) {
	if !inRange(a) || !inRange(b) {
		return 0, api.ErrArg
	}
	return Wrap(a - b), api.OK
}

// Mul is the product.
func Mul(a, b int) (int, api.Errno) {
	if !inRange(a) || !inRange(b) {
		return 0, api.ErrArg
	}
	return Wrap(a * b), api.OK
}

// Div is the quotient, rounded down.
func Div(a, b int) (int, api.Errno) {
	q, _, e := divide(a, b)
	return Wrap(q), e
}

// Mod is what is left of it.
func Mod(a, b int) (int, api.Errno) {
	_, r, e := divide(a, b)
	return r, e
}

// divide is the quotient, rounded down and not wrapped, and what is left.
func divide(a, b int) (q, r int, e api.Errno) {
	if !inRange(a) || !inRange(b) {
		return 0, 0, api.ErrArg
	}
	if b == 0 {
		return 0, 0, api.ErrZero
	}
	q, r = a/b, a%b
	// Go rounds toward 0, which is up where the signs differ.
	if r != 0 && (r < 0) != (b < 0) {
		q, r = q-1, r+b
	}
	return q, r, api.OK
}

// And is the bits that both have.
func And(a, b int) (int, api.Errno) {
	if !inRange(a) || !inRange(b) {
		return 0, api.ErrArg
	}
	return a & b, api.OK
}

// Or is the bits that one of them has.
func Or(a, b int) (int, api.Errno) {
	if !inRange(a) || !inRange(b) {
		return 0, api.ErrArg
	}
	return a | b, api.OK
}

// Xor is the bits that just one of them has.
func Xor(a, b int) (int, api.Errno) {
	if !inRange(a) || !inRange(b) {
		return 0, api.ErrArg
	}
	return a ^ b, api.OK
}

// Shift moves the bits up, or down where by is below 0.
func Shift(a, by int) (int, api.Errno) {
	if !inRange(a) || !inRange(by) {
		return 0, api.ErrArg
	}
	// Moved by all its bits a number is 0, or down -1, and farther off the same.
	if by >= 0 {
		return Wrap(a << min(by, numberBits)), api.OK
	}
	return a >> min(-by, numberBits), api.OK
}

// Text is a number in digits.
func Text(n int) (string, api.Errno) {
	if !inRange(n) {
		return "", api.ErrArg
	}
	return strconv.Itoa(n), api.OK
}
