package proc

import (
	"iter"

	"kiln/api"
	"kiln/class"
	"kiln/context"
	"kiln/method"
	"kiln/word"
)

// standing is what a context stands on: its chain, each of it with its outers.
// What cannot be gone through is told as an error, and is the last.
func standing(k *class.Kernel, top int) iter.Seq2[int, api.Errno] {
	return func(yield func(int, api.Errno) bool) {
		for waiting, e := range chain(k, top) {
			if e != api.OK {
				yield(0, e)
				return
			}
			for c, e := range outers(k, waiting) {
				if !yield(c, e) || e != api.OK {
					return
				}
			}
		}
	}
}

// chain is a context, its sender, that one's sender, and so on, or an error alone.
func chain(k *class.Kernel, first int) iter.Seq2[int, api.Errno] {
	return func(yield func(int, api.Errno) bool) {
		list, e := context.Chain(k, first)
		if e != api.OK {
			yield(0, e)
			return
		}
		for _, c := range list {
			if !yield(c, api.OK) {
				return
			}
		}
	}
}

// outers is a context, its outer, that one's outer, up to its home, or an error alone.
func outers(k *class.Kernel, first int) iter.Seq2[int, api.Errno] {
	return func(yield func(int, api.Errno) bool) {
		// Where there is a home, the way outward leads to it.
		home, e := context.Home(k, first)
		if e != api.OK {
			yield(0, e)
			return
		}
		for c := first; yield(c, api.OK) && c != home; {
			x, _ := context.Info(k, c)
			c, _ = word.Oop(x.Outer)
		}
	}
}

// anyStale tells whether one of what a context stands on is stale, as far as it can be gone through.
func anyStale(k *class.Kernel, top int) bool {
	for c, e := range standing(k, top) {
		if e == api.OK && isStale(k, c) {
			return true
		}
	}
	return false
}

// isStale tells whether a context's own method is stale.
func isStale(k *class.Kernel, c int) bool {
	x, _ := context.Info(k, c)
	m, _ := word.Oop(x.Method)
	return method.Stale(k, m)
}
