package image_test

import (
	"testing"

	"kiln/api"
)

// Rule 12.
func TestRuleOwners(t *testing.T) {
	own := func(class string, slot int) func(w *world) api.Word {
		return func(w *world) api.Word { return w.at(w.class(class), slot) }
	}
	of := func(selector string, slot int) func(w *world) api.Word {
		return func(w *world) api.Word { return w.at(w.method("Object", selector), slot) }
	}
	inner := map[string]func(w *world) api.Word{
		"the classes":    func(w *world) api.Word { return w.at(api.Root, api.RootClasses) },
		"the globals":    func(w *world) api.Word { return w.at(api.Root, api.RootGlobals) },
		"the processes":  func(w *world) api.Word { return w.at(api.Root, api.RootProcesses) },
		"own names":      own("P", api.ClassOwn),
		"selectors":      own("P", api.ClassSelectors),
		"methods":        own("P", api.ClassMethods),
		"literals":       of("lits", api.MethodLiterals),
		"code":           of("lits", api.MethodCode),
		"a source":       of("lits", api.MethodSource),
		"a stale source": func(w *world) api.Word { return w.at(w.number(w.chain(2)[0], api.ContextMethod), api.MethodSource) },
		"a method":       func(w *world) api.Word { return obj(w.method("P", "sum")) },
		"a stale method": func(w *world) api.Word { return w.at(w.chain(2)[0], api.ContextMethod) },
		"a context":      func(w *world) api.Word { return obj(w.chain(1)[0]) },
		"a dead context": func(w *world) api.Word { return w.at(w.value("H"), api.BlockOuter) },
		"a process":      func(w *world) api.Word { return obj(w.process(1)) },
	}
	free := map[string]func(w *world) api.Word{
		"an instance":     func(w *world) api.Word { return obj(w.value("G")) },
		"a block":         func(w *world) api.Word { return obj(w.value("H")) },
		"a message":       func(w *world) api.Word { return obj(w.value("I")) },
		"a class":         func(w *world) api.Word { return obj(w.class("P")) },
		"a literal text":  func(w *world) api.Word { return w.at(w.number(w.method("Object", "lits"), api.MethodLiterals), 0) },
		"a literal array": func(w *world) api.Word { return w.at(w.number(w.method("Object", "lits"), api.MethodLiterals), 1) },
		"no slots":        func(w *world) api.Word { return empty },
		"a new String":    func(w *world) api.Word { return w.str("new") },
	}
	plain := map[string]func(w *world) (oop, slot int){
		"an instance":      func(w *world) (int, int) { return w.value("G"), 1 },
		"a global's value": func(w *world) (int, int) { return w.root(api.RootGlobals), 7 },
		"an Array":         func(w *world) (int, int) { return w.number(w.value("I"), 1), 1 },
		"a literal array's element": func(w *world) (int, int) {
			return w.number(w.number(w.method("Object", "lits"), api.MethodLiterals), 1), 2
		},
		"a temporary":       func(w *world) (int, int) { return w.chain(8)[1], api.ContextSlots },
		"a cell":            func(w *world) (int, int) { return w.chain(8)[0], api.ContextSlots + 1 },
		"a dead temporary":  func(w *world) (int, int) { return w.number(w.value("H"), api.BlockOuter), api.ContextSlots },
		"a stale temporary": func(w *world) (int, int) { return w.number(w.value("J"), api.BlockOuter), api.ContextSlots },
		"a stale receiver":  func(w *world) (int, int) { return w.chain(2)[0], api.ContextReceiver },
	}
	var list []change
	for where, slot := range plain {
		for what, x := range inner {
			list = append(list, change{what + " in " + where, "12:", func(w *world) {
				oop, i := slot(w)
				w.put(oop, i, x(w))
			}})
		}
		for what, x := range free {
			list = append(list, change{what + " in " + where, "", func(w *world) {
				oop, i := slot(w)
				w.put(oop, i, x(w))
			}})
		}
		list = append(list, change{"the root in " + where, "12: the root", func(w *world) {
			oop, i := slot(w)
			w.put(oop, i, obj(api.Root))
		}})
	}
	judgeAll(t, list)
}

// Rule 12: a Message's Array, a literal, a block's receiver: which must be more than plain.
func TestRuleOtherOwners(t *testing.T) {
	list := []change{
		{"a Message's Array that is a class's", "12:", func(w *world) { w.put(w.value("I"), 1, w.at(w.class("P"), api.ClassOwn)) }},
		{"a Message's Array that is the root", "12:", func(w *world) { w.put(w.value("I"), 1, obj(api.Root)) }},
		{"a literal that is a source", "12:", func(w *world) {
			m := w.method("Object", "lits")
			w.put(w.number(m, api.MethodLiterals), 0, w.at(m, api.MethodSource))
		}},
		{"a literal that is another method's literals", "12:", func(w *world) {
			m := w.method("Object", "lits")
			w.put(m, api.MethodSource, w.str("lits 'seven' size. ^#(1 2)"))
			w.put(w.number(m, api.MethodLiterals), 1, w.at(m, api.MethodLiterals))
		}},
		{"literals among themselves", "", func(w *world) {
			l := w.number(w.method("Object", "lits"), api.MethodLiterals)
			w.put(w.number(l, 1), 0, w.at(l, 0))
		}},
		{"a block's receiver that is a context", "12:", func(w *world) {
			x := obj(w.chain(1)[0])
			for c := w.number(w.value("J"), api.BlockOuter); c != api.Nil; c = w.number(c, api.ContextOuter) {
				w.put(c, api.ContextReceiver, x)
			}
			w.put(w.value("J"), api.BlockReceiver, x)
		}},
		{"one Array of own names", "12: an inner object twice", func(w *world) {
			w.acts(defines("Y", "Object", "x y"))
			w.put(w.class("Y"), api.ClassOwn, w.at(w.class("P"), api.ClassOwn))
		}},
		{"one Array of selectors", "12: an inner object twice", func(w *world) {
			w.acts(defines("Y", "Object", "x y"), lays("Y", "x: a y: b"), lays("Y", "sum"))
			w.put(w.class("Y"), api.ClassSelectors, w.at(w.class("P"), api.ClassSelectors))
		}},
		{"own names that are selectors", "12: an inner object twice", func(w *world) {
			w.acts(defines("Y", "Object", "sum"), lays("Y", "sum ^sum"))
			w.put(w.class("Y"), api.ClassSelectors, w.at(w.class("Y"), api.ClassOwn))
		}},
		{"one code", "12: an inner object twice", func(w *world) {
			w.acts(lays("P", "one ^x"), lays("P", "two ^x"))
			w.put(w.method("P", "one"), api.MethodCode, w.at(w.method("P", "two"), api.MethodCode))
		}},
		{"one code of stale methods", "12: an inner object twice", func(w *world) {
			m := w.number(w.chain(2)[0], api.ContextMethod)
			w.put(m, api.MethodCode, w.at(w.method("P", "sum"), api.MethodCode))
		}},
		{"one source", "", func(w *world) {
			w.acts(lays("P", "one ^x"), lays("Q", "one ^x"))
			w.put(w.method("P", "one"), api.MethodSource, w.at(w.method("Q", "one"), api.MethodSource))
		}},
		{"one Array of literals", "", func(w *world) {
			w.acts(lays("P", "one ^'x'"), lays("Q", "two ^'y'"))
			w.put(w.method("P", "one"), api.MethodLiterals, w.at(w.method("Q", "two"), api.MethodLiterals))
		}},
		{"literals that are code", "12: an inner object twice", func(w *world) {
			m := w.number(w.chain(2)[0], api.ContextMethod)
			w.put(m, api.MethodLiterals, w.at(m, api.MethodCode))
		}},
		{"literals that are selectors", "12: an inner object twice", func(w *world) {
			m := w.number(w.chain(2)[0], api.ContextMethod)
			w.put(m, api.MethodLiterals, w.at(w.class("P"), api.ClassSelectors))
		}},
		{"literals that are the classes", "12: an inner object twice", func(w *world) {
			m := w.number(w.chain(2)[0], api.ContextMethod)
			w.put(m, api.MethodLiterals, w.at(api.Root, api.RootClasses))
		}},
		{"literals that are the root", "12:", func(w *world) {
			m := w.number(w.chain(2)[0], api.ContextMethod)
			w.put(m, api.MethodLiterals, obj(api.Root))
		}},
		{"code that is globals", "8:", func(w *world) {
			m := w.number(w.chain(2)[0], api.ContextMethod)
			w.put(m, api.MethodCode, w.at(api.Root, api.RootGlobals))
		}},
		{"globals and processes that are both the empty Array", "", func(w *world) {
			*w = *booted(w.t, 1000, 100)
		}},
	}
	judgeAll(t, list)
}
