package prim

import (
	"strings"

	"kiln/act"
	"kiln/api"
	"kiln/word"
)

// The slots of a Message.
const (
	messageSelector = iota
	messageArguments
	messageSlots
)

func ofClass() map[string]primitive {
	return map[string]primitive{
		"new":        {do: instance},
		"new:":       {x: isLength, do: sized},
		"name":       {do: slot(api.ClassName)},
		"superclass": {do: slot(api.ClassSuper)},
	}
}

func ofBlock() map[string]primitive {
	all := map[string]primitive{
		"numArgs": {do: slot(api.BlockParams)},
		"value":   {},
	}
	for n := 1; n <= api.MaxArgs; n++ {
		all[strings.Repeat("value:", n)] = primitive{}
	}
	return all
}

func ofMessage() map[string]primitive {
	return map[string]primitive{
		"selector":  {do: slot(messageSelector)},
		"arguments": {do: slot(messageArguments)},
	}
}

// slot answers one of the receiver's own.
func slot(i int) answer {
	return func(a asked) (api.Word, api.Errno) { return a.object().At(i), api.OK }
}

// instance is a new one of the receiver.
func instance(a asked) (api.Word, api.Errno) {
	c := a.object().Oop()
	if !hasInstances(c) {
		return 0, api.ErrPrim
	}
	fields, e := a.kernel.Fields(c)
	if e != api.OK {
		return 0, api.ErrPrim
	}
	return act.Lay(a.kernel.Space(), c, api.FormatWords, len(fields))
}

// sized is a new string or array with x slots.
func sized(a asked) (api.Word, api.Errno) {
	n := number(a.x())
	switch c := a.object().Oop(); {
	case c == api.String:
		return act.Lay(a.kernel.Space(), c, api.FormatBytes, n)
	case c == api.Array && n == 0:
		return word.Object(api.Empty)
	case c == api.Array:
		return act.Lay(a.kernel.Space(), c, api.FormatWords, n)
	}
	return 0, api.ErrPrim
}
