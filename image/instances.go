package image

import (
	"kiln/api"
	"kiln/object"
	"kiln/word"
)

// lookAtInstances: each object has the format and the slots of its class. Those
// of which there are rules of their own are left to these.
func (s *survey) lookAtInstances() {
	for class, list := range s.ofClass {
		for _, o := range list {
			demand(s.suits(o, class))
		}
	}
}

func (s *survey) suits(o object.Object, class int) bool {
	switch class {
	case api.UndefinedObject, api.FalseClass, api.TrueClass, api.Integer, api.Symbol:
		return o.Oop() <= api.True
	case api.Class:
		_, e := s.kernel.Number(o.Oop())
		return e == api.OK
	case api.String:
		return o.Format() == api.FormatBytes
	case api.Array:
		return o.Format() == api.FormatWords && (o.Size() > 0 || o.Oop() == api.Empty)
	case api.Message:
		return o.Format() == api.FormatWords && o.Size() == messageSlots && isMessage(o)
	case api.Method, api.Block, api.Context, api.Process:
		return true
	}
	return o.Format() == api.FormatWords && o.Size() == len(s.fields[class])
}

// The slots of a Message.
const (
	messageSelector = iota
	messageArguments
	messageSlots
)

func isMessage(o object.Object) bool {
	return word.Kind(o.At(messageSelector)) == word.KindSymbol &&
		o.ObjectAt(messageArguments).Is(api.Array, api.FormatWords)
}
