package prim

import (
	"kiln/act"
	"kiln/api"
	"kiln/word"
)

func ofObject() map[string]primitive {
	return map[string]primitive{
		"==":             {do: tells(asked.same)},
		"=":              {do: tells(asked.same)},
		"~~":             {do: tells(asked.other)},
		"class":          {do: classOf},
		"isNil":          {do: tells(asked.isNil)},
		"notNil":         {do: tells(asked.notNil)},
		"yourself":       {do: itself},
		"isKindOf:":      {x: isClass, do: tells(asked.isKind)},
		"instVarSize":    {do: counts(asked.fields)},
		"instVarAt:":     {x: isInteger, do: at(asked.fields)},
		"instVarAt:put:": {x: isInteger, do: atPut(asked.fields)},
		"copy":           {do: copied},
	}
}

func ofBoolean() map[string]primitive {
	return map[string]primitive{
		"not":  {do: tells(asked.isFalse)},
		"&":    {x: isBoolean, do: tells(asked.both)},
		"and:": {x: isBoolean, do: tells(asked.both)},
		"or:":  {x: isBoolean, do: tells(asked.either)},
	}
}

func (a asked) same() bool { return a.x() == a.receiver }

func (a asked) other() bool { return a.x() != a.receiver }

func (a asked) isNil() bool { return a.receiver == fixed(api.Nil) }

func (a asked) notNil() bool { return a.receiver != fixed(api.Nil) }

func (a asked) isFalse() bool { return a.receiver != truth(true) }

func (a asked) both() bool { return a.receiver == truth(true) && a.x() == truth(true) }

func (a asked) either() bool { return a.receiver == truth(true) || a.x() == truth(true) }

func (a asked) isKind() bool { return isOf(a.kernel, a.receiver, named(a.kernel, a.x()).Oop()) }

func classOf(a asked) (api.Word, api.Errno) { return word.Object(a.class()) }

func itself(a asked) (api.Word, api.Errno) { return a.receiver, api.OK }

// hasInstances tells whether what a class makes are instances: what the kernel
// knows by itself is of its other classes.
func hasInstances(class int) bool {
	return class <= api.Object || class > api.Message
}

// copied is a new object like the receiver. What can't be changed needs none.
func copied(a asked) (api.Word, api.Errno) {
	o, c := a.object(), a.class()
	if !hasInstances(c) && c != api.String && (c != api.Array || o.Size() == 0) {
		return a.receiver, api.OK
	}
	return act.Lay(a.kernel.Space(), c, o.Format(), o.Size(), o.Words()...)
}
