package inspect

import (
	"strings"

	"kiln/api"
	"kiln/class"
	"kiln/object"
	"kiln/word"
)

// sight is a word of a kernel and the object that it names; a word that names
// none has the object 0, which reads as zeros.
type sight struct {
	object.Object
	kernel *class.Kernel
	word   api.Word
	class  int // the oop of the word's class; 0: it has none
}

func see(k *class.Kernel, w api.Word) sight {
	oop, _ := word.Oop(w)
	c, _ := k.Of(w)
	return sight{object.Of(k, oop), k, w, c}
}

// there is why the word can't be told alone.
func (s sight) there() api.Errno {
	switch word.Kind(s.word) {
	case word.KindNone:
		return api.ErrWord
	case word.KindObject:
		_, e := s.Word()
		return e
	}
	return api.OK
}

// plain is the form of a word that needs no label; false: it needs one.
func (s sight) plain() (string, bool) {
	switch word.Kind(s.word) {
	case word.KindInt:
		return digits(s.word), true
	case word.KindSymbol:
		return s.symbol(), true
	}
	switch s.Oop() {
	case api.Nil:
		return "nil", true
	case api.True:
		return "true", true
	case api.False:
		return "false", true
	}
	if s.class == api.Class {
		return s.TextAt(api.ClassName), true
	}
	return "", false
}

// digits is the number of an integer.
func digits(w api.Word) string {
	n, _ := word.Num(w)
	text, _ := word.Text(n)
	return text
}

func (s sight) symbol() string {
	n, _ := word.Sym(s.word)
	text, e := s.kernel.Symbols().Text(n)
	if e != api.OK {
		return "#"
	}
	return "#" + written(text)
}

// className is the name of the word's class, whether or not that stands in the
// kernel's Array of all classes.
func (s sight) className() string { return object.Of(s.kernel, s.class).TextAt(api.ClassName) }

// isString tells whether the object has bytes to be written.
func (s sight) isString() bool { return s.Is(api.String, api.FormatBytes) }

// alone is what is told of a word where no other is.
func (s sight) alone() string {
	if text, plain := s.plain(); plain {
		return text
	}
	if s.isString() {
		return written(s.Bytes())
	}
	return article(s.className()) + " " + s.className()
}

// article is what stands ahead of a class's name.
func article(name string) string {
	if name != "" && strings.Contains("AEIOU", name[:1]) {
		return "an"
	}
	return "a"
}
