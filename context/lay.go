package context

import (
	"slices"

	"kiln/act"
	"kiln/api"
	"kiln/class"
	"kiln/word"
)

// fits tells whether a context with so many arguments may have these numbers.
func fits(x api.ContextInfo, args int) bool {
	return within(x.Pc, 0, api.MaxCode) && within(x.Temps, args, api.MaxTemps) && within(x.Stack, 0, api.MaxStack)
}

func within(n, least, most int) bool { return n >= least && n <= most }

func allWords(list ...api.Word) bool { return !slices.ContainsFunc(list, noWord) }

func noWord(w api.Word) bool { return word.Kind(w) == word.KindNone }

// depthOf is the depth that a new context will have, by its sender's.
func depthOf(k *class.Kernel, x api.ContextInfo) (int, api.Errno) {
	sender, e := named(k, x.Sender)
	if e != api.OK {
		return 0, e
	}
	if _, e = named(k, x.Outer); e != api.OK {
		return 0, e
	}
	if sender.depth() >= api.MaxContexts {
		return 0, api.ErrDeepRun
	}
	return sender.depth() + 1, api.OK
}

// layContext makes a context: what is not said of it is nil from the beginning.
func layContext(k *class.Kernel, x api.ContextInfo, depth int, args []api.Word) (int, api.Errno) {
	first := append([]api.Word{
		api.ContextSender:   x.Sender,
		api.ContextMethod:   x.Method,
		api.ContextPc:       integer(x.Pc),
		api.ContextReceiver: x.Receiver,
		api.ContextOuter:    x.Outer,
		api.ContextDepth:    integer(depth),
		api.ContextTop:      integer(0),
		api.ContextTemps:    integer(x.Temps),
		api.ContextStart:    integer(x.Pc),
	}, args...)
	return lay(k, api.Context, api.ContextSlots+x.Temps+x.Stack, first)
}

// layBlock makes a block.
func layBlock(k *class.Kernel, x api.BlockInfo) (int, api.Errno) {
	return lay(k, api.Block, api.BlockSlots, []api.Word{
		api.BlockOuter:    x.Outer,
		api.BlockMethod:   x.Method,
		api.BlockReceiver: x.Receiver,
		api.BlockStart:    integer(x.Start),
		api.BlockParams:   integer(x.Params),
		api.BlockTemps:    integer(x.Temps),
	})
}

// lay is the oop of a new object. All that is said of it was read by now: the
// allocation may take away whatever nothing keeps.
func lay(k *class.Kernel, class, n int, first []api.Word) (int, api.Errno) {
	w, e := act.Lay(k.Space(), class, api.FormatWords, n, first...)
	if e != api.OK {
		return 0, e
	}
	return word.Oop(w)
}

// none is nil's word.
func none() api.Word {
	w, _ := word.Object(api.Nil)
	return w
}

// integer is the word of a number of a context or a block, which are all in range.
func integer(n int) api.Word {
	w, _ := word.Int(n)
	return w
}
