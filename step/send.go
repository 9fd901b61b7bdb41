package step

import (
	"strings"

	"kiln/act"
	"kiln/api"
	"kiln/context"
	"kiln/method"
	"kiln/object"
	"kiln/prim"
	"kiln/word"
)

const (
	// doesNotUnderstand is what is sent in the place of what is not understood.
	doesNotUnderstand = "doesNotUnderstand:"
	// activates is how the selectors begin that activate a block.
	activates = "value"
)

// message is what is sent: all of it lies on the top context's stack yet.
type message struct {
	symbol   int // the selector's number
	selector string
	receiver api.Word
	args     []api.Word
}

// selector is the text of the selector of a send that is next, or is done now.
func (r *runner) selector() string {
	text, _ := r.kernel.Symbols().Text(r.operands[0])
	return text
}

// message is what a send is about.
func (r *runner) message() (message, api.Errno) {
	n := r.operands[1]
	receiver, e := r.peek(n)
	if e != api.OK {
		return message{}, e
	}
	x := message{r.operands[0], r.selector(), receiver, make([]api.Word, n)}
	for i := range n {
		if x.args[i], e = r.peek(n - 1 - i); e != api.OK {
			return message{}, e
		}
	}
	return x, api.OK
}

func (r *runner) send() api.Errno {
	x, e := r.message()
	if e != api.OK {
		return e
	}
	class, e := r.kernel.Of(x.receiver)
	if e != api.OK {
		return e
	}
	return r.deliver(x, class)
}

func (r *runner) sendSuper() api.Errno {
	x, e := r.message()
	if e != api.OK {
		return e
	}
	// Object has none: from 0 up nothing is found.
	class, _ := r.kernel.Super(r.method().ObjectAt(api.MethodClass).Oop())
	return r.deliver(x, class)
}

// deliver does what is found for a message from a class up.
func (r *runner) deliver(x message, class int) api.Errno {
	found, in := r.seek(x, class)
	switch {
	case found != 0:
		return r.activate(x, r.body(found, x.receiver), x.args)
	case in == api.Block && strings.HasPrefix(x.selector, activates):
		return r.activateBlock(x)
	case in != 0:
		return r.primitive(x, in)
	}
	return r.notUnderstood(x)
}

// seek is what is found for a message from a class up: a method, and the class
// that has it; no method, and the class that has a primitive; or neither.
func (r *runner) seek(x message, class int) (found, in int) {
	found, owner := r.book.Lookup(class, x.symbol)
	// No way up is longer than there are classes: so one that leads round ends, too.
	for range r.kernel.Count() {
		if class == owner {
			return found, owner
		}
		if prim.Has(class, x.selector) {
			return 0, class
		}
		class, _ = r.kernel.Super(class)
	}
	return 0, 0
}

// body is a context that runs a method for a receiver, as it begins.
func (r *runner) body(found int, receiver api.Word) api.ContextInfo {
	m := object.Of(r.kernel, found)
	return api.ContextInfo{
		Method:   named(found),
		Receiver: receiver,
		Outer:    named(api.Nil),
		Temps:    m.NumberAt(api.MethodTemps),
		Stack:    m.NumberAt(api.MethodStack),
	}
}

// activate makes a context, for whose answer the top one waits. The message
// goes from the stack behind that alone: what it names stays live till then.
func (r *runner) activate(x message, body api.ContextInfo, args []api.Word) api.Errno {
	body.Sender = named(r.top.Oop())
	oop, e := context.New(r.kernel, body, args)
	if e != api.OK {
		return e
	}
	r.drop(1 + len(x.args))
	return r.enter(oop)
}

// activateBlock runs the block that is the receiver.
func (r *runner) activateBlock(x message) api.Errno {
	oop, _ := word.Oop(x.receiver)
	b, e := context.Block(r.kernel, oop)
	if e != api.OK || b.Params != len(x.args) {
		return api.ErrPrim
	}
	of, _ := word.Oop(b.Method)
	if method.Stale(r.kernel, of) {
		return api.ErrStale
	}
	body := r.body(of, b.Receiver)
	body.Outer, body.Pc, body.Temps = b.Outer, b.Start, b.Temps
	return r.activate(x, body, x.args)
}

// primitive does the one of a class.
func (r *runner) primitive(x message, class int) api.Errno {
	w, e := prim.Do(r.kernel, class, x.selector, x.receiver, x.args)
	if e != api.OK {
		return e
	}
	r.drop(1 + len(x.args))
	return r.push(w)
}

// notUnderstood tells the receiver what it did not understand, if it understands that.
func (r *runner) notUnderstood(x message) api.Errno {
	found := r.handler(x)
	if found == 0 {
		r.unknown = x.selector
		return api.ErrUnderstood
	}
	// Where there is no context more, nothing is allocated either.
	if r.top.NumberAt(api.ContextDepth) >= api.MaxContexts {
		return api.ErrDeepRun
	}
	a := act.Begin(r.kernel.Space(), r.kernel.Symbols())
	defer a.End(api.OK) // as in Go
	w, e := told(a, x)
	if e != api.OK {
		return e
	}
	return r.activate(x, r.body(found, x.receiver), []api.Word{w})
}

// handler is the method by which a message's receiver takes what it does not understand; 0: none.
func (r *runner) handler(x message) int {
	symbol, there := r.kernel.Symbols().Find(doesNotUnderstand)
	if !there || x.symbol == symbol {
		return 0
	}
	class, _ := r.kernel.Of(x.receiver)
	found, _ := r.book.Lookup(class, symbol)
	return found
}

// told is a new Message of what is sent, kept until the act ends.
func told(a *act.Act, x message) (api.Word, api.Errno) {
	symbol, e := word.Symbol(x.symbol)
	if e != api.OK {
		return 0, e
	}
	args, e := a.Array(x.args...)
	if e != api.OK {
		return 0, e
	}
	return a.Make(api.Message, symbol, args)
}
