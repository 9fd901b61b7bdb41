package image_test

import (
	"slices"
	"strings"
	"testing"

	"kiln/api"
)

// methodOf is the method of a process's context, counted from the top.
func methodOf(process, i int) func(w *world) int {
	return func(w *world) int { return w.number(w.chain(process)[i], api.ContextMethod) }
}

// sourced gives a method another source of its own.
func sourced(what, rule string, which func(w *world) int, source string) change {
	return change{what, rule, func(w *world) { w.put(which(w), api.MethodSource, w.str(source)) }}
}

// Rule 8: what all methods must be; the doit of the process 6, the removed method
// in which the process 8 waits, and the stale one in which the process 2 does.
func TestRuleMethods(t *testing.T) {
	doit, removed, stale := methodOf(6, 0), methodOf(8, 1), methodOf(2, 0)
	var list []change
	for _, which := range []func(w *world) int{doit, removed, stale} {
		list = append(list, slices.Concat(
			puts("a method", "8: selector", which, api.MethodSelector, num(3), obj(api.Integer), empty, obj(api.True)),
			puts("a method", "8: class", which, api.MethodClass, num(3), sym(3), null, empty),
			puts("a method", "8: layout", which, api.MethodLayout, num(-1), num(2), num(1<<30-1), null, sym(0)),
			puts("a method", "8: arguments", which, api.MethodArgs, num(-1), num(9), null, sym(0)),
			puts("a method", "8: temporaries", which, api.MethodTemps, num(-1), num(33), null, sym(0)),
			puts("a method", "8: stack", which, api.MethodStack, num(-1), num(257), null, sym(0)),
			puts("a method", "8: no Array", which, api.MethodLiterals, num(0), null, obj(api.Array)),
			puts("a method", "8: no Array", which, api.MethodCode, num(0), null, obj(api.Array)),
			puts("a method", "8: source", which, api.MethodSource, num(0), null, empty),
		)...)
		list = append(list,
			change{"a method with a slot more", "8: class, format", func(w *world) { w.longer(which(w), null) }},
			change{"a method with a slot less", "8: class, format", func(w *world) { w.shorter(which(w)) }},
			change{"a method of bytes", "8: class, format", func(w *world) { w.reform(which(w), api.Method, api.FormatBytes, 1, 2, 3) }},
			change{"fewer temporaries than arguments", "8: temporaries", func(w *world) {
				w.put(which(w), api.MethodArgs, num(2))
				w.put(which(w), api.MethodTemps, num(1))
			}},
			change{"words of code that are no integers", "8: code's word", func(w *world) {
				w.put(w.number(which(w), api.MethodCode), 0, null)
			}},
			change{"4097 words of code", "8: code", func(w *world) {
				w.put(which(w), api.MethodCode, w.array(slices.Repeat([]api.Word{num(1)}, 4097)...))
			}},
			change{"a String of words", "7: string", func(w *world) { w.put(which(w), api.MethodSource, w.laid(api.String, api.FormatWords, num(1))) }},
			change{"an Array of bytes for literals", "7: array", func(w *world) {
				w.put(which(w), api.MethodLiterals, w.laid(api.Array, api.FormatBytes, 1))
			}},
			change{"an Array of bytes for code", "7: array", func(w *world) {
				w.put(which(w), api.MethodCode, w.laid(api.Array, api.FormatBytes, 1))
			}},
		)
	}
	list = append(list,
		change{"a doit of another class", "8: doit", func(w *world) { w.put(doit(w), api.MethodClass, obj(api.Object)) }},
		change{"a method without a selector", "8: doit", func(w *world) { w.put(removed(w), api.MethodSelector, null) }},
		change{"a stale method without a selector", "8: doit", func(w *world) { w.put(stale(w), api.MethodSelector, null) }},
		change{"a doit with a selector", "8: source", func(w *world) { w.put(doit(w), api.MethodSelector, w.symbol("sum")) }},
		change{"another selector", "8: source", func(w *world) { w.put(removed(w), api.MethodSelector, w.symbol("gone")) }},
	)
	judgeAll(t, list)
}

// Rule 8: what those are that may still run, and what stale ones need not be.
func TestRuleCode(t *testing.T) {
	doit, removed, stale, lits := methodOf(6, 0), methodOf(8, 1), methodOf(2, 0), func(w *world) int { return w.method("Object", "lits") }
	code := func(which func(w *world) int) func(w *world) int {
		return func(w *world) int { return w.number(which(w), api.MethodCode) }
	}
	var list []change
	for i, which := range []func(w *world) int{doit, removed, stale} {
		rule := "8: what is made"
		if i == 2 {
			rule = ""
		}
		list = append(list, slices.Concat(
			puts("a method", rule, which, api.MethodTemps, num(8), num(32)),
			puts("a method", rule, which, api.MethodStack, num(0), num(256)),
			puts("a method", rule, code(which), 0, num(4), num(-1), num(-1<<30), num(1<<30-1)),
		)...)
		list = append(list,
			change{"a word more", rule, func(w *world) { w.longer(code(which)(w), num(20)) }},
			change{"a word less", rule, func(w *world) { w.shorter(code(which)(w)) }},
			change{"no code", rule, func(w *world) { w.put(which(w), api.MethodCode, empty) }},
			change{"4096 words", rule, func(w *world) {
				w.put(which(w), api.MethodCode, w.array(slices.Repeat([]api.Word{num(1)}, 4096)...))
			}},
			change{"arguments", rule, func(w *world) {
				w.put(which(w), api.MethodArgs, num(8))
				w.put(which(w), api.MethodTemps, num(8))
			}},
		)
		for source, broken := range map[string]string{
			"": "8:", "gone": "8:", "(": "8: source", "gone: a": "8:", strings.Repeat(" ", 4097): "8: source", "'": "8: source",
			"gone: a ^Nope": "8:", "^Nope": "8:", strings.Repeat("x", 8192): "8: source", "super": "8: source",
		} {
			if i == 2 {
				broken = ""
			}
			list = append(list, sourced("the source "+source[:min(len(source), 20)], broken, which, source))
		}
	}
	list = append(list, puts("a method", "8: what is made", removed, api.MethodArgs, num(0))...)
	const gone = "gone: a ^[:b | b > 0 ifTrue: [^a] ifFalse: [self gone: b]] value: a - 1"
	list = append(list,
		sourced("a copy of the source", "", removed, gone),
		sourced("a comment more", "", removed, "\"!\" "+gone+" \"\x00\""),
		sourced("all the blanks that there may be", "", removed, gone+strings.Repeat(" ", 4096-len(gone))),
		sourced("a blank more than there may be", "8: source", removed, gone+strings.Repeat(" ", 4097-len(gone))),
		sourced("other names", "", removed, "gone: c ^[:d | d > 0 ifTrue: [^c] ifFalse: [self gone: d]] value: c - 1"),
		sourced("a symbol that is not there", "8: code", removed, "gone: a ^[:b | b >> 0 ifTrue: [^a] ifFalse: [self gone: b]] value: a - 1"),
		sourced("another symbol that is there", "8: what is made", removed, "gone: a ^[:b | b < 0 ifTrue: [^a] ifFalse: [self gone: b]] value: a - 1"),
		sourced("another text", "", lits, "lits 'eight' size. ^#(1 'two' #three #(4 #(#five) nil true) #() 'six')"),
		sourced("another symbol in an array", "", lits, "lits 'seven' size. ^#(1 'two' #sum #(4 #(#five) nil true) #() 'six')"),
		sourced("a new symbol in an array", "8: code", lits, "lits 'seven' size. ^#(1 'two' #never #(4 #(#five) nil true) #() 'six')"),
		sourced("a longer array", "8: array", lits, "lits 'seven' size. ^#(1 'two' #three #(4 #(#five) nil true) #() 'six' 7)"),
		sourced("a longer array in an array", "", lits, "lits 'seven' size. ^#(1 'two' #three #(4 #(#five) nil true 7) #() 'six')"),
		sourced("an array for a text", "8: no Array", lits, "lits #(7) size. ^#(1 'two' #three #(4 #(#five) nil true) #() 'six')"),
		sourced("a text for an array", "8: text", lits, "lits 'seven' size. ^'text'"),
		sourced("a literal more", "8:", lits, "lits 'seven' size. 'more'. ^#(1 'two' #three #(4 #(#five) nil true) #() 'six')"),
	)
	literals := func(w *world) int { return w.number(lits(w), api.MethodLiterals) }
	list = append(list, slices.Concat(
		puts("the literals", "8: text", literals, 0, num(3), null, empty, sym(3), obj(api.String)),
		puts("the literals", "8: no Array", literals, 1, num(3), null, obj(api.Array)),
		puts("the literals", "8: array", literals, 1, empty),
	)...)
	list = append(list,
		change{"another String for a text", "", func(w *world) { w.put(literals(w), 0, w.str("a longer text than the one there was")) }},
		change{"an empty String for a text", "", func(w *world) { w.put(literals(w), 0, w.str("")) }},
		change{"another Array for an array", "", func(w *world) {
			w.put(literals(w), 1, w.array(slices.Repeat([]api.Word{null}, 6)...))
		}},
		change{"a shorter Array for an array", "8: array", func(w *world) {
			w.put(literals(w), 1, w.array(slices.Repeat([]api.Word{null}, 5)...))
		}},
		change{"an Array for a text", "8: text", func(w *world) { w.put(literals(w), 0, w.array(num(1))) }},
		change{"one text twice", "8: no Array", func(w *world) { w.put(literals(w), 1, w.at(literals(w), 0)) }},
		change{"an element that is itself", "", func(w *world) { w.put(w.number(literals(w), 1), 0, w.at(literals(w), 1)) }},
		change{"a literal more", "8: literals", func(w *world) { w.longer(literals(w), num(1)) }},
		change{"a literal less", "8: literals", func(w *world) { w.shorter(literals(w)) }},
		change{"literals where there are none", "8: literals", func(w *world) { w.put(removed(w), api.MethodLiterals, w.array(num(1))) }},
		change{"literals in a stale method", "", func(w *world) { w.put(stale(w), api.MethodLiterals, w.array(num(1), null)) }},
		change{"a stale method that is not stale any more", "8: what is made", func(w *world) { w.put(stale(w), api.MethodLayout, num(1)) }},
		change{"a class that has got another field", "8: what is made", func(w *world) {
			w.names("P", w.symbol("y"), w.symbol("x"))
		}},
		change{"a class that has lost a field", "7: instance", func(w *world) { w.names("P", w.symbol("x")) }},
		change{"another global's name", "8: names", func(w *world) { w.put(w.root(api.RootGlobals), 0, w.symbol("K")) }},
		change{"two globals' names exchanged", "8: what is made", func(w *world) {
			all := w.root(api.RootGlobals)
			a, b := w.at(all, 0), w.at(all, 2)
			w.put(all, 0, b)
			w.put(all, 2, a)
		}},
		change{"two classes' names exchanged", "8: what is made", func(w *world) {
			a, b := w.class("Q"), w.class("E")
			x, y := w.at(a, 0), w.at(b, 0)
			w.put(a, 0, y)
			w.put(b, 0, x)
		}},
	)
	judgeAll(t, list)
}
