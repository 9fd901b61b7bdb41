package check_test

import (
	"fmt"
	"math/rand"
	"slices"
	"strings"
	"testing"

	"kiln/api"
	"kiln/check"
	"kiln/gen"
	"kiln/parse"
	"kiln/scope"
	"kiln/symbol"
)

func newTable(t *testing.T) *symbol.Table {
	t.Helper()
	x, e := symbol.New(api.MaxSymbols)
	if e != api.OK {
		t.Fatalf("no table: %d", e)
	}
	return x
}

// made are the bounds of P11.3.
func made(x *symbol.Table) api.Bounds {
	return api.Bounds{Fields: api.MaxFields, Classes: api.MaxClasses, Globals: api.MaxGlobals, Symbols: x.Count()}
}

// wantTaken holds a code that gen made against P11.3, and all else that is said of it.
func wantTaken(t *testing.T, dice *rand.Rand, c api.Code, x *symbol.Table) {
	t.Helper()
	if e := wantJudged(t, dice, c, made(x)); e != api.OK {
		t.Fatalf("P11.3: %.600v: %d", c, e)
	}
}

// wantTree makes the code of a tree.
func wantTree(t *testing.T, m api.Scoped) api.Code {
	t.Helper()
	x := newTable(t)
	c, fault := gen.Make(m, x)
	if fault != (api.Fault{}) {
		t.Fatalf("no code: %+v", fault)
	}
	wantTaken(t, rand.New(rand.NewSource(1)), c, x)
	return c
}

// P11.3: codes that reach the limits.
func TestMadeAtLimits(t *testing.T) {
	nothing, text := api.Bound{Kind: api.BoundNil}, api.Bound{Kind: api.BoundText, Text: strings.Repeat("t", api.MaxText)}
	kids := func(n int, b api.Bound) []api.Bound { return slices.Repeat([]api.Bound{b}, n) }
	body := func(list ...api.Bound) api.Scoped { return api.Scoped{Body: list} }

	wantTree(t, api.Scoped{})
	wantTree(t, api.Scoped{Params: api.MaxArgs, Slots: api.MaxTemps})
	if c := wantTree(t, body(kids(2047, nothing)...)); len(c.Words) != api.MaxCode {
		t.Fatalf("%d words", len(c.Words))
	}
	if c := wantTree(t, body(kids(64, text)...)); len(c.Literals) != api.MaxLiterals {
		t.Fatalf("%d literals", len(c.Literals))
	}
	full := api.Bound{Kind: api.BoundArray, Kids: kids(api.MaxArray, nothing)}
	many := append(kids(3, api.Bound{Kind: api.BoundArray, Kids: kids(api.MaxArray, full)}), kids(29, full)...)
	wantTree(t, body(many...))

	deep := nothing
	for range api.MaxStack - 1 {
		deep = api.Bound{Kind: api.BoundSend, Text: "+", Kids: []api.Bound{nothing, deep}}
	}
	if c := wantTree(t, body(deep)); c.Stack != api.MaxStack {
		t.Fatalf("the stack is %d deep", c.Stack)
	}
	wide := api.Bound{Kind: api.BoundSend, Text: "+", Kids: kids(api.MaxArgs+1, nothing)}
	wantTree(t, body(wide, api.Bound{Kind: api.BoundSuper, Text: "+", Kids: kids(api.MaxArgs, nothing)}))

	nested := api.Bound{Kind: api.BoundTemp, Depth: api.MaxNest, Index: api.MaxTemps - 1}
	for range api.MaxNest {
		nested = api.Bound{Kind: api.BoundBlock, Params: api.MaxArgs, Slots: api.MaxTemps, Kids: []api.Bound{nested}}
	}
	wantTree(t, api.Scoped{Slots: api.MaxTemps, Body: []api.Bound{nested}})
	wantTree(t, body(
		api.Bound{Kind: api.BoundInt, Number: api.LeastInt}, api.Bound{Kind: api.BoundInt, Number: api.MostInt},
		api.Bound{Kind: api.BoundField, Index: api.MaxFields - 1}, api.Bound{Kind: api.BoundGlobal, Index: api.MaxGlobals - 1},
		api.Bound{Kind: api.BoundClass, Number: api.MaxClasses}, api.Bound{Kind: api.BoundClass, Number: 1},
	))
}

// P11.3: the bounds are those of the table, and not more than are needed.
func TestMadeNeedsItsSymbols(t *testing.T) {
	x := newTable(t)
	c, fault := gen.Make(api.Scoped{Body: []api.Bound{{Kind: api.BoundSymbol, Text: "a"}, {Kind: api.BoundSymbol, Text: "b"}}}, x)
	if fault != (api.Fault{}) || x.Count() != 2 {
		t.Fatalf("%+v, %d symbols", fault, x.Count())
	}
	want(t, api.OK, c, made(x))
	less := made(x)
	less.Symbols--
	want(t, api.ErrOperand, c, less)
}

// writer writes sources of methods at random.
type writer struct {
	*rand.Rand
	names  []string // that may be read and stored to
	params []string // that may be read alone
	count  int
	left   int // how many expressions more
}

func (w *writer) pick(list []string) string { return list[w.Intn(len(list))] }

func (w *writer) leaf() string {
	plain := []string{"nil", "true", "false", "self", "7", "-1073741824", "'it''s'", "#foo", "#at:put:", "#(1 #a 'b' #(2 nil) true)", "#()", "Object", "Array"}
	return w.pick(slices.Concat(plain, w.names, w.params, w.names, w.params))
}

func (w *writer) expression() string {
	w.left--
	if w.left < 0 {
		return w.leaf()
	}
	e := func() string { return "(" + w.expression() + ")" }
	switch w.Intn(16) {
	case 0:
		return w.pick(w.names) + " := " + w.expression()
	case 1:
		return e() + " foo"
	case 2:
		return e() + " + " + e()
	case 3:
		return e() + " at: " + e() + " put: " + e()
	case 4:
		return "super at: " + e()
	case 5:
		return e() + " foo; bar: " + e() + "; + " + e()
	case 6:
		return "super foo; bar: " + e()
	case 7:
		return w.block(":", 2)
	case 8:
		return e() + " " + w.pick([]string{"ifTrue: ", "ifFalse: ", "and: ", "or: "}) + w.block("", 0)
	case 9:
		return e() + " ifTrue: " + w.block("", 0) + " ifFalse: " + w.block("", 0)
	case 10:
		return e() + " ifFalse: " + w.block("", 0) + " ifTrue: " + w.block("", 0)
	case 11:
		return w.block("", 0) + w.pick([]string{" whileTrue: ", " whileFalse: "}) + w.block("", 0)
	case 12:
		return e() + " to: " + e() + " do: " + w.block(":", 1)
	case 13:
		return w.block("", 0) + " value"
	}
	return w.leaf()
}

// block writes one with so many parameters, or none at all.
func (w *writer) block(mark string, params int) string {
	names, known := w.names, w.params
	defer func() { w.names, w.params = names, known }()
	var out strings.Builder
	out.WriteString("[")
	w.names, w.params = slices.Clone(names), slices.Clone(known)
	for range params {
		w.count++
		name := fmt.Sprint("p", w.count)
		w.params = append(w.params, name)
		out.WriteString(mark + name + " ")
	}
	if params > 0 {
		out.WriteString("| ")
	}
	if w.Intn(4) == 0 {
		w.count++
		name := fmt.Sprint("t", w.count)
		w.names = append(w.names, name)
		out.WriteString("| " + name + " | ")
	}
	out.WriteString(w.statements() + "]")
	return out.String()
}

func (w *writer) statements() string {
	var list []string
	for range w.Intn(3) {
		list = append(list, w.expression())
	}
	if w.Intn(4) == 0 {
		list = append(list, "^"+w.expression())
	}
	return strings.Join(list, ". ")
}

// P11.3: what the compiler makes of sources at random is taken; spoilt, it is as
// the model says.
func TestMadeAtRandom(t *testing.T) {
	dice := rand.New(rand.NewSource(13))
	names := api.Names{Fields: []string{"x", "y"}, Classes: []string{"Object", "Array"}, Globals: []string{"G"}}
	taken, ops := 0, map[int]bool{}
	for range 3000 {
		w := &writer{Rand: dice, names: []string{"x", "y", "G", "t"}, params: []string{"a"}, left: dice.Intn(40)}
		text := "foo: a | t | " + w.statements()
		s, fault := parse.Method(text)
		if fault != (api.Fault{}) {
			if fault.Code == api.ErrDeep || fault.Code == api.ErrLong {
				continue
			}
			t.Fatalf("%s: %+v", text, fault)
		}
		m, fault := scope.Resolve(s, names)
		if fault != (api.Fault{}) {
			if fault.Code == api.ErrLong {
				continue
			}
			t.Fatalf("%s: %+v", text, fault)
		}
		x := newTable(t)
		c, fault := gen.Make(m, x)
		if fault != (api.Fault{}) {
			t.Fatalf("%s: %+v", text, fault)
		}
		wantTaken(t, dice, c, x)
		taken++
		depths, _ := check.Depths(c, made(x))
		for at, depth := range depths {
			if depth >= 0 {
				ops[c.Words[at]] = true
			}
		}
		for range 4 {
			c, b := spoil(dice, c, made(x))
			wantJudged(t, dice, c, b)
		}
	}
	if taken < 2500 || len(ops) != api.OpNext {
		t.Errorf("%d codes with %d of the instructions", taken, len(ops))
	}
}
