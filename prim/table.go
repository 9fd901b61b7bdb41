package prim

import (
	"strings"
	"unicode"

	"kiln/api"
	"kiln/class"
)

// primitive is what a class understands by a selector: what its arguments must
// be (nothing: they may be any words), and the function that does it. What
// activates a block has none.
type primitive struct {
	x, y need
	do   answer
}

// need tells whether a word is what an argument must be.
type need func(k *class.Kernel, w api.Word) bool

// answer does a primitive: nothing has changed where it answers an error.
type answer func(a asked) (api.Word, api.Errno)

// takes tells whether these may be its arguments, of which there are as many as its selector takes.
func (p primitive) takes(k *class.Kernel, args []api.Word) bool {
	for i, n := range [...]need{p.x, p.y} {
		if n != nil && !n(k, args[i]) {
			return false
		}
	}
	return true
}

// arguments is how many a selector takes: an operator has no letters.
func arguments(selector string) int {
	if !strings.ContainsFunc(selector, unicode.IsLetter) {
		return 1
	}
	return strings.Count(selector, ":")
}

// family is a class's primitives, by their selectors. They are made by a
// function, so that whoever asks for one class does not make those of all others.
type family struct {
	all func() map[string]primitive
}

// families is the classes that have primitives.
func families() map[int]family {
	return map[int]family{
		api.Object:     {ofObject},
		api.FalseClass: {ofBoolean},
		api.TrueClass:  {ofBoolean},
		api.Integer:    {ofInteger},
		api.Symbol:     {ofSymbol},
		api.String:     {ofString},
		api.Array:      {ofArray},
		api.Class:      {ofClass},
		api.Block:      {ofBlock},
		api.Message:    {ofMessage},
	}
}

// primitives is those of a class, by their selectors.
func primitives(class int) map[string]primitive {
	f, there := families()[class]
	if !there {
		return nil
	}
	return f.all()
}
