package prim

import (
	"kiln/act"
	"kiln/api"
	"kiln/class"
	"kiln/word"
)

func ofSymbol() map[string]primitive {
	return map[string]primitive{
		"size":     {do: counts(asked.bytes)},
		"asString": {do: asString},
		"<":        {x: isSymbol, do: tells(asked.less)},
	}
}

func ofString() map[string]primitive {
	return map[string]primitive{
		"size":     {do: counts(asked.slots)},
		"isEmpty":  {do: tells(asked.isEmpty)},
		"at:":      {x: isInteger, do: at(asked.slots)},
		"at:put:":  {x: isInteger, y: isByte, do: atPut(asked.slots)},
		",":        {x: isString, do: joined},
		"=":        {do: tells(asked.equal)},
		"<":        {x: isString, do: tells(asked.less)},
		"asSymbol": {do: asSymbol},
	}
}

// text is the bytes of a symbol or a string; of a symbol that the table has not there are none.
func text(k *class.Kernel, w api.Word) string {
	n, e := word.Sym(w)
	if e != api.OK {
		return named(k, w).Bytes()
	}
	s, _ := k.Symbols().Text(n)
	return s
}

func (a asked) text() string { return text(a.kernel, a.receiver) }

func (a asked) bytes() int { return len(a.text()) }

func (a asked) less() bool { return a.text() < text(a.kernel, a.x()) }

func (a asked) equal() bool {
	return isString(a.kernel, a.x()) && a.text() == text(a.kernel, a.x())
}

func asString(a asked) (api.Word, api.Errno) { return act.LayString(a.kernel.Space(), a.text()) }

func joined(a asked) (api.Word, api.Errno) {
	both := a.text() + text(a.kernel, a.x())
	if len(both) > api.MaxSlots {
		return 0, api.ErrPrim
	}
	return act.LayString(a.kernel.Space(), both)
}

func asSymbol(a asked) (api.Word, api.Errno) {
	if n := a.slots(); n < 1 || n > api.MaxSelector {
		return 0, api.ErrPrim
	}
	n, e := a.kernel.Symbols().Add(a.text())
	if e != api.OK {
		return 0, e
	}
	return word.Symbol(n)
}
