package scope

import (
	"strings"

	"kiln/api"
	"kiln/lex"
)

// meaning is what a name means; the zero: nothing.
type meaning struct {
	kind  int // of the node that a name with this meaning becomes
	index int // the slot of a temporary, the place of a field or a global, the number of a class
	level int // of a temporary: that of its real scope
	param bool
}

// realScope is the method, or a real block.
type realScope struct {
	level int // how many real blocks it is, and stands in
	slots int // how many it has by now
}

// walker goes through a tree, and knows what each name means where it is.
type walker struct {
	inside  map[string]meaning // parameters and temporaries of the scopes around; no two have one text
	outside map[string]meaning // fields, globals, classes
	real    realScope          // the innermost one
	fault   api.Fault          // the first that was met
}

func newWalker(n api.Names) *walker {
	w := &walker{inside: map[string]meaning{}, outside: make(map[string]meaning, len(n.Fields)+len(n.Globals)+len(n.Classes))}
	w.know(n.Fields, meaning{kind: api.BoundField})
	w.know(n.Globals, meaning{kind: api.BoundGlobal})
	w.know(n.Classes, meaning{kind: api.BoundClass, index: 1})
	return w
}

// know gives the names of a list their meanings, from the first one on; a name
// that means something already keeps that.
func (w *walker) know(names []string, first meaning) {
	for _, name := range names {
		if _, there := w.outside[name]; !there {
			w.outside[name] = first
		}
		first.index++
	}
}

// refuse tells of a fault; nothing is walked through behind it, so that it is
// the first.
func (w *walker) refuse(code api.Errno, at int) {
	w.fault = api.Fault{Code: code, At: at}
}

// enter gives each name of a scope, params of them parameters, the next slot of
// the real scope.
func (w *walker) enter(names []string, places []int, params int) {
	for i, name := range names {
		if code := w.refused(name); code != api.OK {
			w.refuse(code, placeOf(places, i))
			return
		}
		w.inside[name] = meaning{kind: api.BoundTemp, index: w.real.slots, level: w.real.level, param: i < params}
		w.real.slots++
	}
}

// leave lets the names of a scope mean what they meant around it.
func (w *walker) leave(names []string) {
	for _, name := range names {
		delete(w.inside, name)
	}
}

// refused tells why a name cannot be a parameter or a temporary here.
func (w *walker) refused(name string) api.Errno {
	_, twice := w.inside[name]
	switch {
	case isReserved(name) || !isSmall(name):
		return api.ErrReserved
	case twice || w.outside[name].kind == api.BoundField:
		return api.ErrTwice
	case w.real.slots >= api.MaxTemps:
		return api.ErrLong
	}
	return api.OK
}

// placeOf is the place of a name; one of a tree made by hand may have none.
func placeOf(places []int, i int) int {
	if i < len(places) {
		return places[i]
	}
	return 0
}

func isReserved(name string) bool { return lex.Variable(name) == api.ErrReserved }

func isSmall(name string) bool { return name[0] >= 'a' && name[0] <= 'z' }

func (w *walker) meaningOf(name string) meaning {
	if m, there := w.inside[name]; there {
		return m
	}
	return w.outside[name]
}

// bound is the node of a name that has this meaning where the walker is.
func (w *walker) bound(n *api.Node, m meaning) api.Bound {
	b := api.Bound{Kind: m.kind, Text: strings.Clone(n.Text), At: n.At}
	switch m.kind {
	case api.BoundTemp:
		b.Depth, b.Index = w.real.level-m.level, m.index
	case api.BoundClass:
		b.Number = m.index
	default:
		b.Index = m.index
	}
	return b
}

// all walks through these nodes in order, each wrapped as is said, up to the
// first fault.
func (w *walker) all(nodes []api.Node, wrapped func(*api.Node) expression) []api.Bound {
	var list []api.Bound
	for i := range nodes {
		if w.fault.Code != api.OK {
			break
		}
		list = append(list, wrapped(&nodes[i]).walk(w))
	}
	return list
}
