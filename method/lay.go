package method

import (
	"kiln/api"
	"kiln/word"
)

// lay makes a method of a class: all that it holds, one behind the other, and then itself.
func (j job) lay(class int, source string, m made) (int, api.Errno) {
	layout, e := j.kernel.Layout(class)
	if e != api.OK {
		return 0, e
	}
	of, e := word.Object(class)
	if e != api.OK {
		return 0, e
	}
	literals, e := j.literals(m.Literals)
	if e != api.OK {
		return 0, e
	}
	code, e := j.integers(m.Words)
	if e != api.OK {
		return 0, e
	}
	text, e := j.String(source)
	if e != api.OK {
		return 0, e
	}
	return j.method([]api.Word{
		api.MethodSelector: m.selector,
		api.MethodClass:    of,
		api.MethodLayout:   integer(layout),
		api.MethodArgs:     integer(m.Args),
		api.MethodTemps:    integer(m.Temps),
		api.MethodStack:    integer(m.Stack),
		api.MethodLiterals: literals,
		api.MethodCode:     code,
		api.MethodSource:   text,
	})
}

// layAgain makes a method like an old one, with other code.
func (j job) layAgain(old laid, m made, layout int) (int, api.Errno) {
	w, e := old.Word()
	if e != api.OK {
		return 0, e
	}
	// Perhaps nothing else leads to the old one and what it holds.
	if e = j.Keep(w); e != api.OK {
		return 0, e
	}
	code, e := j.integers(m.Words)
	if e != api.OK {
		return 0, e
	}
	slots := old.Words()
	slots[api.MethodLayout] = integer(layout)
	slots[api.MethodTemps] = integer(m.Temps)
	slots[api.MethodStack] = integer(m.Stack)
	slots[api.MethodCode] = code
	return j.method(slots)
}

func (j job) method(slots []api.Word) (int, api.Errno) {
	w, e := j.Make(api.Method, slots...)
	if e != api.OK {
		return 0, e
	}
	return word.Oop(w)
}

// literals is the Array of a code's literals. It is laid as one of them would
// be: what it holds first, and nothing at all where it holds nothing.
func (j job) literals(list []api.Lit) (api.Word, api.Errno) {
	var lay func(l api.Lit) (api.Word, api.Errno)
	lay = func(l api.Lit) (api.Word, api.Errno) {
		switch l.Kind {
		case api.LitInt:
			return word.Int(l.Number)
		case api.LitSymbol:
			return word.Symbol(l.Number)
		case api.LitTrue:
			return word.Object(api.True)
		case api.LitFalse:
			return word.Object(api.False)
		case api.LitText:
			return j.String(l.Text)
		case api.LitArray:
			return j.array(l.Items, lay)
		}
		return word.Object(api.Nil)
	}
	return lay(api.Lit{Kind: api.LitArray, Items: list})
}

// array is an Array of items, each of which is laid ahead of it.
func (j job) array(items []api.Lit, lay func(api.Lit) (api.Word, api.Errno)) (api.Word, api.Errno) {
	var slots []api.Word
	for _, item := range items {
		w, e := lay(item)
		if e != api.OK {
			return 0, e
		}
		slots = append(slots, w)
	}
	return j.Array(slots...)
}

// integers is an Array of numbers.
func (j job) integers(list []int) (api.Word, api.Errno) {
	var slots []api.Word
	for _, n := range list {
		slots = append(slots, integer(n))
	}
	return j.Array(slots...)
}

// integer is the word of a number of a code or a layout, which are all in range.
func integer(n int) api.Word {
	w, _ := word.Int(n)
	return w
}
