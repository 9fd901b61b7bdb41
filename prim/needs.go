package prim

import (
	"kiln/api"
	"kiln/class"
	"kiln/object"
	"kiln/word"
)

// allThere tells whether all of these are words, and their objects there.
func allThere(k *class.Kernel, words ...api.Word) bool {
	for _, w := range words {
		if !isThere(k, w) {
			return false
		}
	}
	return true
}

func isThere(k *class.Kernel, w api.Word) bool {
	if word.Kind(w) != word.KindObject {
		return word.Kind(w) != word.KindNone
	}
	_, e := named(k, w).Word()
	return e == api.OK
}

// isOf tells whether a word's class is that one, or a descendant of it.
func isOf(k *class.Kernel, w api.Word, class int) bool {
	c, e := k.Of(w)
	// A way up has no more steps than there are classes: so one that leads round ends, too.
	for range k.Count() {
		if e != api.OK || c == class {
			break
		}
		c, e = k.Super(c)
	}
	return e == api.OK && c == class
}

// formed tells whether a receiver is as the kernel makes those of a class. The
// others' slots may be anything.
func formed(k *class.Kernel, w api.Word, class int) bool {
	switch o := named(k, w); class {
	case api.Integer:
		return isInteger(k, w)
	case api.Symbol:
		return isSymbol(k, w)
	case api.Class:
		return hasWords(o, api.ClassSlots)
	case api.Block:
		return hasWords(o, api.BlockSlots) && isInteger(k, o.At(api.BlockParams))
	case api.Message:
		return hasWords(o, messageSlots)
	}
	return true
}

func hasWords(o object.Object, n int) bool { return o.Format() == api.FormatWords && o.Size() == n }

func isInteger(k *class.Kernel, w api.Word) bool { return word.Kind(w) == word.KindInt }

// isByte tells whether a word is a number that a string may hold.
func isByte(k *class.Kernel, w api.Word) bool {
	return isInteger(k, w) && number(w) >= 0 && number(w) <= 255
}

// isLength tells whether a word is a number of slots that an object may have.
func isLength(k *class.Kernel, w api.Word) bool {
	return isInteger(k, w) && number(w) >= 0 && number(w) <= api.MaxSlots
}

func isSymbol(k *class.Kernel, w api.Word) bool { return word.Kind(w) == word.KindSymbol }

func isBoolean(k *class.Kernel, w api.Word) bool { return w == truth(true) || w == truth(false) }

func isString(k *class.Kernel, w api.Word) bool { return isMade(k, w, api.String) }

func isClass(k *class.Kernel, w api.Word) bool { return isMade(k, w, api.Class) }

// isMade tells whether a word's class is that one itself.
func isMade(k *class.Kernel, w api.Word, class int) bool {
	c, e := k.Of(w)
	return e == api.OK && c == class
}
