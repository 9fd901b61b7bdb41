package gen_test

import (
	"fmt"
	"math"
	"reflect"
	"slices"
	"strings"
	"testing"
	"unsafe"

	"kiln/api"
	"kiln/gen"
	"kiln/parse"
	"kiln/scope"
	"kiln/symbol"
)

// Nodes of a tree, without their places.

func plain(kind int) api.Bound        { return api.Bound{Kind: kind} }
func integer(n int) api.Bound         { return api.Bound{Kind: api.BoundInt, Number: n} }
func text(s string) api.Bound         { return api.Bound{Kind: api.BoundText, Text: s} }
func named(s string) api.Bound        { return api.Bound{Kind: api.BoundSymbol, Text: s} }
func field(place int) api.Bound       { return api.Bound{Kind: api.BoundField, Index: place} }
func global(place int) api.Bound      { return api.Bound{Kind: api.BoundGlobal, Index: place} }
func class(number int) api.Bound      { return api.Bound{Kind: api.BoundClass, Number: number} }
func null() api.Bound                 { return plain(api.BoundNil) }
func self() api.Bound                 { return plain(api.BoundSelf) }
func kids(l ...api.Bound) []api.Bound { return l }

func array(elements ...api.Bound) api.Bound {
	return api.Bound{Kind: api.BoundArray, Kids: elements}
}

func temp(outward, slot int) api.Bound {
	return api.Bound{Kind: api.BoundTemp, Depth: outward, Index: slot}
}

func assigned(target, value api.Bound) api.Bound {
	return api.Bound{Kind: api.BoundAssign, Kids: kids(target, value)}
}

func sent(selector string, kids ...api.Bound) api.Bound {
	return api.Bound{Kind: api.BoundSend, Text: selector, Kids: kids}
}

func superSent(selector string, kids ...api.Bound) api.Bound {
	return api.Bound{Kind: api.BoundSuper, Text: selector, Kids: kids}
}

func cascaded(kids ...api.Bound) api.Bound { return api.Bound{Kind: api.BoundCascade, Kids: kids} }

func block(params, slots int, kids ...api.Bound) api.Bound {
	return api.Bound{Kind: api.BoundBlock, Params: params, Slots: slots, Kids: kids}
}

func returned(depth int, value api.Bound) api.Bound {
	return api.Bound{Kind: api.BoundReturn, Depth: depth, Kids: kids(value)}
}

func chosen(number int, kids ...api.Bound) api.Bound {
	return api.Bound{Kind: api.BoundIf, Number: number, Kids: kids}
}

func looped(number int, kids ...api.Bound) api.Bound {
	return api.Bound{Kind: api.BoundWhile, Number: number, Kids: kids}
}

func counted(slot int, kids ...api.Bound) api.Bound {
	return api.Bound{Kind: api.BoundToDo, Index: slot, Kids: kids}
}

func body(kids ...api.Bound) api.Bound { return api.Bound{Kind: api.BoundBody, Kids: kids} }

func clearing(slots []int, kids ...api.Bound) api.Bound {
	return api.Bound{Kind: api.BoundBody, Clear: slots, Kids: kids}
}

func at(place int, b api.Bound) api.Bound {
	b.At = place
	return b
}

// method is one with ten slots, the first of them a parameter.
func method(statements ...api.Bound) api.Scoped {
	return api.Scoped{Params: 1, Slots: 10, Body: statements}
}

func table(t *testing.T, most int, texts ...string) *symbol.Table {
	t.Helper()
	x, e := symbol.Load(texts, most)
	if e != api.OK {
		t.Fatalf("no table: %d", e)
	}
	return x
}

func copiedLits(list []api.Lit) []api.Lit {
	var out []api.Lit
	for _, l := range list {
		l.Items = copiedLits(l.Items)
		out = append(out, l)
	}
	return out
}

// same holds codes against each other; nil and empty lists mean the same.
func same(a, b api.Code) bool {
	a.Literals, b.Literals = copiedLits(a.Literals), copiedLits(b.Literals)
	a.Words, b.Words = append([]int{}, a.Words...), append([]int{}, b.Words...)
	return reflect.DeepEqual(a, b)
}

// told is a method's first nodes; one that shares lists has too many for all.
func told(m api.Scoped) string {
	var out strings.Builder
	var nodes func([]api.Bound)
	nodes = func(list []api.Bound) {
		for _, n := range list {
			if out.Len() > 600 {
				return
			}
			fmt.Fprintf(&out, "%d %.9q %d at %d (", n.Kind, n.Text, n.Number, n.At)
			nodes(n.Kids)
			out.WriteString(") ")
		}
	}
	nodes(m.Body)
	return out.String()
}

func wantCode(t *testing.T, m api.Scoped, x *symbol.Table, want api.Code) {
	t.Helper()
	got, fault := gen.Make(m, x)
	if fault != (api.Fault{}) || !same(got, want) {
		t.Fatalf("%s:\n got %+v, %+v\nwant %+v", told(m), got, fault, want)
	}
	wantSound(t, got)
}

// wantMethod holds a method's words and stack against these.
func wantMethod(t *testing.T, stack int, words []int, statements ...api.Bound) {
	t.Helper()
	wantCode(t, method(statements...), table(t, 9), api.Code{Args: 1, Temps: 10, Stack: stack, Words: words})
}

// wantLaid is of a method of one statement, but for what ends the method.
func wantLaid(t *testing.T, stack int, statement api.Bound, words ...int) {
	t.Helper()
	wantMethod(t, stack, append(words, 15, 1, 20), statement)
}

// wantRefused holds a fault against this one; the table is as it was.
func wantRefused(t *testing.T, m api.Scoped, x *symbol.Table, code api.Errno, place int) {
	t.Helper()
	was := x.All()
	got, fault := gen.Make(m, x)
	if fault != (api.Fault{Code: code, At: place}) || !reflect.DeepEqual(got, api.Code{}) {
		t.Fatalf("%s: %.300s, %+v, want {%d %d}", told(m), fmt.Sprintf("%+v", got), fault, code, place)
	}
	if !slices.Equal(x.All(), was) {
		t.Fatalf("the table was %q, is %q", was, x.All())
	}
}

func wantFault(t *testing.T, code api.Errno, place int, statements ...api.Bound) {
	t.Helper()
	wantRefused(t, method(statements...), table(t, 4096), code, place)
}

func wantTexts(t *testing.T, x *symbol.Table, texts ...string) {
	t.Helper()
	if !slices.Equal(x.All(), texts) {
		t.Fatalf("the table has %q, want %q", x.All(), texts)
	}
}

// The chapter's examples, in its order.
func TestExamples(t *testing.T) {
	a, b, one := temp(0, 0), temp(0, 1), integer(1)

	wantMethod(t, 1, []int{1, 20})
	wantMethod(t, 1, []int{5, 3, 15, 1, 20}, integer(3))
	wantMethod(t, 1, []int{5, 3, 20}, returned(0, integer(3)))

	x := table(t, 1)
	wantCode(t, method(returned(0, sent("+", a, one))), x, api.Code{Args: 1, Temps: 10, Stack: 2, Words: []int{10, 0, 0, 5, 1, 17, 0, 1, 20}})
	wantTexts(t, x, "+")

	wantMethod(t, 1, []int{2, 12, 1, 12, 0, 15, 1, 20}, assigned(field(0), assigned(field(1), null())))

	wantLaid(t, 1, chosen(1, a, body(one)), 10, 0, 0, 25, 4, 5, 1, 23, 1, 2)
	wantLaid(t, 1, chosen(5, a, body(b)), 10, 0, 0, 25, 5, 10, 0, 1, 23, 1, 4)

	wantLaid(t, 1, looped(1, body(a), body(b)), 10, 0, 0, 25, 6, 10, 0, 1, 15, 26, 11, 2)

	wantLaid(t, 2, counted(2, one, integer(3), body()), 5, 1, 5, 3, 27, 2, 5, 2, 15, 28, 2, 5, 2)

	wantLaid(t, 1, block(1, 1, a), 19, 1, 1, 4, 10, 0, 0, 22)
	wantLaid(t, 1, block(0, 0), 19, 0, 0, 2, 2, 22)
	wantLaid(t, 1, block(0, 0, returned(1, one)), 19, 0, 0, 3, 5, 1, 21)

	x = table(t, 2)
	wantCode(t, method(cascaded(a, sent("foo"), sent("bar:", one))), x,
		api.Code{Args: 1, Temps: 10, Stack: 2, Words: []int{10, 0, 0, 16, 17, 0, 0, 15, 5, 1, 17, 1, 1, 15, 1, 20}})
	wantTexts(t, x, "foo", "bar:")
	wantLaid(t, 1, superSent("foo"), 1, 18, 0, 0)

	wantLaid(t, 1, chosen(1, a, clearing([]int{3}, one)), 10, 0, 0, 25, 9, 2, 13, 0, 3, 15, 5, 1, 23, 1, 2)

	var texts, nils []api.Bound
	for i := range 65 {
		texts = append(texts, at(100+i, text("t")))
	}
	wantFault(t, api.ErrLong, 164, texts...)
	wantFault(t, api.ErrTree, 7, one, at(7, returned(0, one)), one)
	wantRefused(t, method(at(4, sent("+", a, one))), table(t, 1, "-"), api.ErrSymbols, 4)
	for i := range 2048 {
		nils = append(nils, at(i, null()))
	}
	wantFault(t, api.ErrLong, 2047, nils...)
}

// P10.2: what is laid for each kind of node.
func TestKinds(t *testing.T) {
	wantLaid(t, 1, integer(api.LeastInt), 5, -1<<30)
	wantLaid(t, 1, integer(api.MostInt), 5, 1<<30-1)
	wantLaid(t, 1, null(), 2)
	wantLaid(t, 1, plain(api.BoundTrue), 3)
	wantLaid(t, 1, plain(api.BoundFalse), 4)
	wantLaid(t, 1, self(), 1)
	wantLaid(t, 1, named("a"), 7, 0)
	wantLaid(t, 1, field(31), 9, 31)
	wantLaid(t, 1, temp(0, 9), 10, 0, 9)
	wantLaid(t, 1, global(255), 11, 255)
	wantLaid(t, 1, class(256), 8, 256)
	wantLaid(t, 1, assigned(field(5), self()), 1, 12, 5)
	wantLaid(t, 1, assigned(temp(0, 4), self()), 1, 13, 0, 4)
	wantLaid(t, 1, assigned(global(6), self()), 1, 14, 6)
	wantLaid(t, 1, sent("a", self()), 1, 17, 0, 0)
	wantLaid(t, 3, sent("a", self(), null(), field(2)), 1, 2, 9, 2, 17, 0, 2)
	wantLaid(t, 3, superSent("a", null(), field(2)), 1, 2, 9, 2, 18, 0, 2)
	wantLaid(t, 9, sent("a", slices.Repeat(kids(null()), 9)...), 2, 2, 2, 2, 2, 2, 2, 2, 2, 17, 0, 8)
	wantLaid(t, 9, superSent("a", slices.Repeat(kids(null()), 8)...), 1, 2, 2, 2, 2, 2, 2, 2, 2, 18, 0, 8)
	wantMethod(t, 1, []int{1, 15, 2, 15, 1, 20}, self(), null())
	wantMethod(t, 1, []int{1, 15, 2, 20}, self(), returned(0, null()))
}

// P10.2: a cascade's receiver is there once more for each message but the last.
func TestCascades(t *testing.T) {
	a, b, c := sent("a"), sent("b", integer(1)), sent("a", null(), field(3))
	wantLaid(t, 2, cascaded(null(), a, a), 2, 16, 17, 0, 0, 15, 17, 0, 0)
	wantLaid(t, 1, cascaded(null(), a), 2, 17, 0, 0)
	wantLaid(t, 3, cascaded(self(), b, b, c), 1, 16, 5, 1, 17, 0, 1, 15, 16, 5, 1, 17, 0, 1, 15, 2, 9, 3, 17, 1, 2)
	wantLaid(t, 4, cascaded(self(), c, b), 1, 16, 2, 9, 3, 17, 0, 2, 15, 5, 1, 17, 1, 1)
	wantLaid(t, 3, cascaded(self(), superSent("x", null()), a), 1, 16, 2, 18, 0, 1, 15, 17, 1, 0)
	wantLaid(t, 3, cascaded(self(), superSent("x", null()), superSent("y")), 1, 16, 2, 18, 0, 1, 15, 18, 1, 0)
	eight := slices.Repeat(kids(null()), 8)
	wantLaid(t, 10, cascaded(self(), sent("x", eight...), superSent("y", eight...)),
		1, 16, 2, 2, 2, 2, 2, 2, 2, 2, 17, 0, 8, 15, 2, 2, 2, 2, 2, 2, 2, 2, 18, 1, 8)
}

// P10.2: conditions and loops, with a length of each body that is of its own.
func TestControl(t *testing.T) {
	x, one, two := field(7), integer(1), body(integer(1), integer(2)) // two takes 5 words
	wantLaid(t, 1, chosen(1, x, two), 9, 7, 25, 7, 5, 1, 15, 5, 2, 23, 1, 2)
	wantLaid(t, 1, chosen(2, x, two), 9, 7, 24, 7, 5, 1, 15, 5, 2, 23, 1, 2)
	wantLaid(t, 1, chosen(3, x, two, body(one)), 9, 7, 25, 7, 5, 1, 15, 5, 2, 23, 2, 5, 1)
	wantLaid(t, 1, chosen(4, x, body(one), two), 9, 7, 24, 4, 5, 1, 23, 5, 5, 1, 15, 5, 2)
	wantLaid(t, 1, chosen(5, x, two), 9, 7, 25, 7, 5, 1, 15, 5, 2, 23, 1, 4)
	wantLaid(t, 1, chosen(6, x, two), 9, 7, 24, 7, 5, 1, 15, 5, 2, 23, 1, 3)
	wantLaid(t, 1, chosen(3, x, body(), body()), 9, 7, 25, 3, 2, 23, 1, 2)
	wantLaid(t, 1, looped(1, two, body(one)), 5, 1, 15, 5, 2, 25, 5, 5, 1, 15, 26, 12, 2)
	wantLaid(t, 1, looped(2, body(one), two), 5, 1, 24, 8, 5, 1, 15, 5, 2, 15, 26, 12, 2)
	wantLaid(t, 1, looped(2, body(), body()), 2, 24, 4, 2, 15, 26, 7, 2)
	wantLaid(t, 2, counted(9, x, one, two), 9, 7, 5, 1, 27, 9, 9, 5, 1, 15, 5, 2, 15, 28, 9, 9, 2)
	wantLaid(t, 1, chosen(1, x, clearing([]int{0, 9, 0})), 9, 7, 25, 18, 2, 13, 0, 0, 15, 2, 13, 0, 9, 15, 2, 13, 0, 0, 15, 2, 23, 1, 2)
	wantMethod(t, 2, []int{1, 9, 7, 25, 4, 5, 1, 23, 1, 2, 17, 0, 1, 20}, returned(0, sent("a", self(), chosen(1, x, body(one)))))
	// A loop within a loop, a condition within a condition.
	wantLaid(t, 1, looped(1, body(x), body(looped(2, body(x), body()))),
		9, 7, 25, 12, 9, 7, 24, 4, 2, 15, 26, 8, 2, 15, 26, 16, 2)
	wantLaid(t, 1, chosen(3, chosen(5, x, body(x)), body(chosen(2, x, body(one))), body(one)),
		9, 7, 25, 4, 9, 7, 23, 1, 4, 25, 11, 9, 7, 24, 4, 5, 1, 23, 1, 2, 23, 2, 5, 1)
}

// P10.2: blocks, and what returns from them.
func TestBlocks(t *testing.T) {
	one := integer(1)
	wantLaid(t, 1, block(2, 5, one, null()), 19, 2, 5, 5, 5, 1, 15, 2, 22)
	wantLaid(t, 1, block(8, 32, temp(0, 31), temp(1, 9)), 19, 8, 32, 8, 10, 0, 31, 15, 10, 1, 9, 22)
	wantLaid(t, 1, block(0, 0, one, returned(1, null())), 19, 0, 0, 5, 5, 1, 15, 2, 21)
	wantLaid(t, 1, block(0, 1, block(0, 2, assigned(temp(0, 1), one), returned(2, assigned(temp(2, 3), temp(1, 0))))),
		19, 0, 1, 18, 19, 0, 2, 13, 5, 1, 13, 0, 1, 15, 10, 1, 0, 13, 2, 3, 21, 22)
	wantLaid(t, 1, block(0, 1, chosen(1, temp(0, 0), clearing([]int{0}, returned(1, one)))),
		19, 0, 1, 17, 10, 0, 0, 25, 10, 2, 13, 0, 0, 15, 5, 1, 21, 23, 1, 2, 22)
	wantLaid(t, 1, chosen(1, one, body(returned(0, block(0, 0, null())))), 5, 1, 25, 9, 19, 0, 0, 2, 2, 22, 20, 23, 1, 2)
	// The slots of a block are its own; those around it are there again behind it.
	wantLaid(t, 2, sent("a", block(0, 1, temp(0, 0)), temp(0, 9)), 19, 0, 1, 4, 10, 0, 0, 22, 10, 0, 9, 17, 0, 1)
	wantFault(t, api.ErrTree, 3, block(0, 1, at(3, temp(0, 1))))
	wantFault(t, api.ErrTree, 3, block(0, 1), at(3, temp(0, 10)))
	wantFault(t, api.ErrTree, 3, block(0, 1), at(3, temp(1, 0)))
}

// P10.2: literals, and the arrays among them.
func TestLiterals(t *testing.T) {
	x := table(t, 9, "b")
	words := []int{6, 0, 15, 6, 1, 15, 6, 2, 15, 6, 3, 20}
	long := strings.Repeat("t", 256)
	inner := array(named("c"), array(), array(named("b"), text("")))
	list := array(integer(-1<<30), text(long), named("a"), null(), plain(api.BoundTrue), plain(api.BoundFalse), inner, named("d"), integer(1<<30-1))
	wantCode(t, api.Scoped{Body: kids(text("t"), list, array(), returned(0, text("t")))}, x, api.Code{Stack: 1, Words: words, Literals: []api.Lit{
		{Kind: api.LitText, Text: "t"},
		{Kind: api.LitArray, Items: []api.Lit{
			{Kind: api.LitInt, Number: -1 << 30}, {Kind: api.LitText, Text: long}, {Kind: api.LitSymbol, Number: 1}, {Kind: api.LitNil}, {Kind: api.LitTrue}, {Kind: api.LitFalse},
			{Kind: api.LitArray, Items: []api.Lit{{Kind: api.LitSymbol, Number: 2}, {Kind: api.LitArray}, {Kind: api.LitArray, Items: []api.Lit{{Kind: api.LitSymbol}, {Kind: api.LitText}}}}},
			{Kind: api.LitSymbol, Number: 3}, {Kind: api.LitInt, Number: 1<<30 - 1}}},
		{Kind: api.LitArray},
		{Kind: api.LitText, Text: "t"},
	}})
	wantTexts(t, x, "b", "a", "c", "d")
	got, fault := gen.Make(method(block(0, 0, text("in")), sent("a", text("out"), array(text("x")))), table(t, 9))
	want := []api.Lit{{Kind: api.LitText, Text: "in"}, {Kind: api.LitText, Text: "out"}, {Kind: api.LitArray, Items: []api.Lit{{Kind: api.LitText, Text: "x"}}}}
	if fault != (api.Fault{}) || !reflect.DeepEqual(copiedLits(got.Literals), want) {
		t.Fatalf("%+v, %+v, want %+v", got, fault, want)
	}
}

// P10.2: symbols are added in the order in which they are laid, each once; with a fault none is.
func TestSymbols(t *testing.T) {
	x := table(t, 9, "z", "d")
	inner := sent("a", named("b"), sent("c", self(), named("d"), array(named("e"), named("b"))))
	wantCode(t, method(inner), x, api.Code{Args: 1, Temps: 10, Stack: 4, Literals: []api.Lit{{Kind: api.LitArray, Items: []api.Lit{{Kind: api.LitSymbol, Number: 3}, {Kind: api.LitSymbol, Number: 2}}}},
		Words: []int{7, 2, 1, 7, 1, 6, 0, 17, 4, 2, 17, 5, 1, 15, 1, 20}})
	wantTexts(t, x, "z", "d", "b", "e", "c", "a")
	more := block(0, 0, cascaded(self(), superSent("g", named("h")), sent("a")))
	wantRefused(t, method(more, at(5, named("i")), at(6, named("j"))), x, api.ErrSymbols, 6)
	wantTexts(t, x, "z", "d", "b", "e", "c", "a")
	wantRefused(t, method(more, at(5, named("i")), at(6, plain(0))), x, api.ErrTree, 6)
	wantTexts(t, x, "z", "d", "b", "e", "c", "a")
	wantCode(t, method(more, named("i")), x, api.Code{Args: 1, Temps: 10, Stack: 3,
		Words: []int{19, 0, 0, 12, 1, 16, 7, 6, 18, 7, 1, 15, 17, 5, 0, 22, 15, 7, 8, 15, 1, 20}})
	wantTexts(t, x, "z", "d", "b", "e", "c", "a", "h", "g", "i")

	longest := strings.Repeat("s", 96)
	x = table(t, 2)
	if _, fault := gen.Make(method(sent(longest, self()), superSent(longest), named(longest), array(named(longest)), named("\x00")), x); fault != (api.Fault{}) {
		t.Fatalf("%+v", fault)
	}
	wantTexts(t, x, longest, "\x00")
	for _, n := range []api.Bound{at(4, named("new")), at(4, sent("new", self())), at(4, superSent("new")), at(3, array(at(4, named("new")))), at(3, cascaded(self(), at(4, sent("new")), at(5, sent("newer")))), block(0, 0, at(4, named("new")))} {
		wantRefused(t, method(n), table(t, 0), api.ErrSymbols, 4)
		wantRefused(t, method(n), table(t, 2, "a", "b"), api.ErrSymbols, 4)
		wantRefused(t, method(returned(0, sent("b", sent("a", sent("a", self()), n)))), table(t, 1, "a"), api.ErrSymbols, 4)
	}
	wantRefused(t, method(at(3, cascaded(self(), at(4, sent("new")), at(5, sent("newer"))))), table(t, 1), api.ErrSymbols, 5)
}

// P10.1: where there is no table nothing else is looked at.
func TestNoTable(t *testing.T) {
	made := table(t, 4, "a")
	stolen := *made
	for _, x := range []*symbol.Table{nil, {}, &stolen} {
		for _, m := range []api.Scoped{method(), method(sent("a", self())), {Params: -1}, method(at(3, plain(0)))} {
			wantRefused(t, m, x, api.ErrNil, 0)
		}
	}
	wantTexts(t, made, "a")
}

// P10.1: how many parameters and slots a method or a block may have.
func TestScopes(t *testing.T) {
	for _, c := range []struct {
		params, slots int
		may           bool
	}{
		{0, 0, true}, {0, 32, true}, {8, 8, true}, {8, 32, true}, {3, 3, true}, {-1, 0, false}, {-1, -1, false}, {0, -1, false}, {9, 9, false}, {9, 32, false}, {8, 7, false}, {1, 0, false},
		{0, 33, false}, {8, 33, false}, {math.MinInt, 0, false}, {math.MaxInt, math.MaxInt, false}, {0, math.MaxInt, false}, {0, math.MinInt, false},
	} {
		m := api.Scoped{Selector: "no selector", Params: c.params, Slots: c.slots, Body: kids(at(5, plain(0)))}
		b := at(6, block(c.params, c.slots, null()))
		if !c.may {
			wantRefused(t, m, table(t, 4), api.ErrTree, 0)
			wantFault(t, api.ErrTree, 6, null(), b)
			continue
		}
		wantRefused(t, m, table(t, 4), api.ErrTree, 5)
		m.Body = nil
		wantCode(t, m, table(t, 4), api.Code{Args: c.params, Temps: c.slots, Stack: 1, Words: []int{1, 20}})
		wantLaid(t, 1, b, 19, c.params, c.slots, 2, 2, 22)
	}
}

// P10.1: nodes that may just be, in a method of ten slots, and ones that may not.
func TestNodes(t *testing.T) {
	one, empty := integer(1), body()
	nine := slices.Repeat(kids(one), 9)
	may := kids(text(""), text(strings.Repeat("t", 256)), named("s"), named(strings.Repeat("s", 96)), array(slices.Repeat(kids(one), 32)...), integer(-1<<30), integer(1<<30-1),
		field(0), field(31), temp(0, 0), temp(0, 9), global(0), global(255), class(1), class(256), sent("a", one), sent("a", nine...), superSent("a"), superSent("a", nine[:8]...),
		cascaded(one, sent("a"), sent("a", nine[:8]...)), cascaded(self(), sent("a"), superSent("b"), superSent("a", nine[:8]...)),
		counted(0, one, one, empty), counted(9, one, one, empty), chosen(1, one, clearing([]int{0, 9, 9})))
	not := kids(text(strings.Repeat("t", 257)), named(""), named(strings.Repeat("s", 97)), array(slices.Repeat(kids(one), 33)...), integer(-1<<30-1), integer(1<<30),
		field(-1), field(32), temp(0, -1), temp(0, 10), temp(-1, 0), temp(2, 0), global(-1), global(256), class(0), class(257),
		api.Bound{Kind: api.BoundAssign}, api.Bound{Kind: api.BoundAssign, Kids: kids(field(0))}, api.Bound{Kind: api.BoundAssign, Kids: kids(field(0), one, one)},
		sent("", one), sent(strings.Repeat("s", 97), one), sent("a"), sent("a", append(nine, one)...), superSent(""), superSent(strings.Repeat("s", 97)), superSent("a", nine...),
		cascaded(), cascaded(one), cascaded(one, one), cascaded(one, sent("a"), one), cascaded(one, superSent("a")), cascaded(null(), sent("a"), superSent("b")), cascaded(self(), sent("a"), null()),
		chosen(1), chosen(1, one), chosen(1, one, empty, empty), chosen(3, one, empty), chosen(4, one, empty), chosen(3, one, empty, empty, empty), chosen(3, one, empty, one), chosen(3, one, one, empty), chosen(1, one, block(0, 0)),
		chosen(0, one, empty), chosen(7, one, empty), chosen(7, one, empty, empty), chosen(-1, one, empty), chosen(0, one, empty, empty),
		looped(0, empty, empty), looped(3, empty, empty), looped(-1, empty, empty), looped(1, empty), looped(1, empty, empty, empty), looped(2, one, empty), looped(2, empty, one), looped(1),
		counted(0, one, one), counted(0, one, empty), counted(0, one, one, one), counted(0, one, one, empty, empty), counted(-1, one, one, empty), counted(10, one, one, empty), counted(0),
		returned(0, one), empty, plain(0), plain(-1), plain(23))
	for _, n := range []int{math.MinInt, math.MaxInt} {
		not = append(not, integer(n), field(n), temp(0, n), temp(n, 0), global(n), class(n), chosen(n, one, empty), looped(n, empty, empty), counted(n, one, one, empty), plain(n))
	}
	for i := range 24 {
		if i != api.BoundField && i != api.BoundTemp && i != api.BoundGlobal {
			not = append(not, assigned(plain(i), one))
		}
		if i != api.BoundBody {
			not = append(not, chosen(1, one, plain(i)), looped(1, empty, plain(i)), looped(2, plain(i), empty), counted(0, one, one, plain(i)))
		}
		if i != api.BoundSend && i != api.BoundSuper {
			not = append(not, cascaded(self(), sent("a"), plain(i), sent("b")))
		}
		if i != api.BoundSelf {
			not = append(not, cascaded(plain(i), sent("a"), superSent("b"), sent("c")))
		}
	}
	for _, b := range may {
		for _, list := range [][]api.Bound{{one, b, one}, {block(0, 10, b)}, {chosen(1, b, body(b))}} {
			if code, fault := gen.Make(method(list...), table(t, 99)); fault != (api.Fault{}) {
				t.Fatalf("%+v: %+v, %+v", b, code, fault)
			}
		}
	}
	for _, b := range not {
		b.At = 77
		wantFault(t, api.ErrTree, 77, one, b, one)
		wantFault(t, api.ErrTree, 77, block(0, 10, one, sent("a", b)))
	}
	wantFault(t, api.ErrTree, 77, at(77, temp(1, 0)))
}

// P10.1: what a body clears are slots of the scope that it lies in; a loop's variable is one, too.
func TestOwnSlots(t *testing.T) {
	one := integer(1)
	for _, slots := range [][]int{{-1}, {10}, {0, 1, 10}, {math.MinInt}, {math.MaxInt}} {
		wrong := at(8, clearing(slots, at(9, plain(0))))
		wantFault(t, api.ErrTree, 8, chosen(1, one, wrong))
		wantFault(t, api.ErrTree, 8, looped(1, body(), wrong))
		wantFault(t, api.ErrTree, 8, looped(1, wrong, body()))
		wantFault(t, api.ErrTree, 8, counted(1, one, one, wrong))
		wantFault(t, api.ErrTree, 8, chosen(3, one, body(), wrong))
	}
	wantFault(t, api.ErrTree, 8, block(0, 3, chosen(1, one, at(8, clearing([]int{3})))))
	wantFault(t, api.ErrTree, 8, block(0, 3, at(8, counted(3, one, one, body()))))
	wantFault(t, api.ErrTree, 8, block(0, 0, at(8, counted(0, one, one, body()))))
	wantLaid(t, 2, block(0, 11, counted(10, one, one, clearing([]int{10}))), 19, 0, 11, 19, 5, 1, 5, 1, 27, 10, 10, 2, 13, 0, 10, 15, 2, 15, 28, 10, 10, 2, 22)
	wantFault(t, api.ErrTree, 8, block(0, 11, block(0, 2, one)), at(8, counted(10, one, one, body())))
}

// P10.1: how many real blocks may be around; conditions and loops are none.
func TestNesting(t *testing.T) {
	nested := func(blocks int, inner api.Bound) api.Bound {
		for i := range blocks {
			inner = at(blocks-i, block(0, 1, inner))
			if i%3 == 0 {
				inner = chosen(1, null(), body(inner))
			}
		}
		return inner
	}
	for outward := range 25 {
		if code, fault := gen.Make(method(nested(24, temp(outward, 0))), table(t, 0)); fault != (api.Fault{}) {
			t.Fatalf("%d: %+v, %+v", outward, code, fault)
		}
	}
	wantFault(t, api.ErrTree, 33, nested(24, at(33, temp(25, 0))))
	wantFault(t, api.ErrTree, 33, nested(24, at(33, temp(24, 10))))
	wantFault(t, api.ErrTree, 33, nested(24, at(33, temp(23, 1))))
	wantFault(t, api.ErrTree, 25, nested(25, at(33, plain(0))))
	wantFault(t, api.ErrTree, 25, nested(26, null()))
	wantFault(t, api.ErrTree, 25, null(), nested(24, null()), nested(25, null()))
	for depth := range 4 {
		for blocks := range 4 {
			m := method(nested(blocks, chosen(1, null(), body(at(44, returned(depth, null()))))))
			if depth != blocks {
				wantRefused(t, m, table(t, 0), api.ErrTree, 44)
			} else if _, fault := gen.Make(m, table(t, 0)); fault != (api.Fault{}) {
				t.Fatalf("%+v", fault)
			}
		}
	}
}

// P10.1: a return is the last statement of a method, a block or a body, and of nothing else.
func TestReturns(t *testing.T) {
	one := integer(1)
	home, inner := at(5, returned(0, one)), at(5, returned(1, one))
	wantFault(t, api.ErrTree, 5, home, one)
	wantFault(t, api.ErrTree, 5, one, home, home)
	wantFault(t, api.ErrTree, 5, block(0, 0, inner, one))
	wantFault(t, api.ErrTree, 5, chosen(1, one, body(home, one)))
	wantFault(t, api.ErrTree, 5, block(0, 0, home))
	wantFault(t, api.ErrTree, 5, inner)
	for _, wrong := range []api.Bound{home, at(5, body()), at(5, plain(23)), at(5, plain(0))} {
		for _, n := range []api.Bound{
			assigned(field(0), wrong), sent("a", wrong), sent("a", one, wrong), superSent("a", wrong), cascaded(wrong, sent("a"), sent("b")), cascaded(one, sent("a", wrong), sent("b")),
			cascaded(one, sent("a"), sent("b", wrong)), chosen(1, wrong, body()), counted(0, wrong, one, body()), counted(0, one, wrong, body()), returned(0, wrong), array(wrong), array(array(wrong)),
		} {
			wantFault(t, api.ErrTree, 5, n)
		}
	}
	for _, wrong := range []api.Bound{{Kind: api.BoundReturn}, {Kind: api.BoundReturn, Kids: kids(one, one)}} {
		wantFault(t, api.ErrTree, 6, at(6, wrong))
		wantFault(t, api.ErrTree, 6, chosen(1, one, body(at(6, wrong))))
	}
}

// P10.1: what may be an element of an array, and where it is told that it may not.
func TestElements(t *testing.T) {
	for kind := -1; kind < 24; kind++ {
		n := at(6, api.Bound{Kind: kind, Text: "a", Number: 1, Kids: kids(null())})
		if kind >= api.BoundInt && kind <= api.BoundFalse {
			if _, fault := gen.Make(method(array(n, array(n))), table(t, 1)); fault != (api.Fault{}) {
				t.Fatalf("%+v: %+v", n, fault)
			}
			continue
		}
		wantFault(t, api.ErrTree, 6, at(5, array(null(), n)))
		wantFault(t, api.ErrTree, 6, at(5, array(at(4, array(null(), n)))))
	}
	for _, wrong := range []api.Bound{integer(1 << 30), integer(-1<<30 - 1), text(strings.Repeat("t", 257)), named(""), named(strings.Repeat("s", 97)), array(slices.Repeat(kids(plain(0)), 33)...)} {
		wantFault(t, api.ErrTree, 6, at(5, array(null(), at(6, wrong), at(7, plain(0)))))
	}
	wantFault(t, api.ErrTree, 5, at(5, array(slices.Repeat(kids(at(6, plain(0))), 33)...)))
}

// P10.1: the numbers of an assignment's target are told at the target, ahead of the value; the rest at the assignment.
func TestTargets(t *testing.T) {
	for _, target := range []api.Bound{field(32), field(-1), temp(0, 10), temp(1, 0), temp(0, -1), global(256), global(-1)} {
		wantFault(t, api.ErrTree, 6, at(5, assigned(at(6, target), at(7, plain(0)))))
	}
	wantFault(t, api.ErrTree, 5, at(5, assigned(at(6, class(0)), at(7, plain(0)))))
	wantFault(t, api.ErrTree, 7, at(5, assigned(at(6, field(1)), at(7, plain(0)))))
	wantFault(t, api.ErrTree, 8, at(5, assigned(at(6, field(1)), at(7, assigned(at(8, temp(0, 10)), at(9, plain(0)))))))
	wantLaid(t, 1, block(0, 2, assigned(temp(1, 9), null())), 19, 0, 2, 5, 2, 13, 1, 9, 22)
	wantFault(t, api.ErrTree, 6, block(0, 2, assigned(at(6, temp(0, 9)), null())))
}

// P10.1: of a cascade's message the text and the arguments are looked at when it comes, ahead of its Dup; its kind at the cascade.
func TestMessages(t *testing.T) {
	wrong := []api.Bound{sent(""), sent(strings.Repeat("s", 97)), sent("a", slices.Repeat(kids(null()), 9)...), superSent(""), superSent(strings.Repeat("s", 97)), superSent("a", slices.Repeat(kids(null()), 9)...)}
	for _, m := range wrong {
		wantFault(t, api.ErrTree, 6, at(5, cascaded(self(), at(6, m), at(7, sent("")))))
		wantFault(t, api.ErrTree, 6, at(5, cascaded(self(), at(4, sent("a", null())), at(6, m))))
		wantFault(t, api.ErrTree, 9, at(5, cascaded(self(), at(4, sent("a", at(9, plain(0)))), at(6, m))))
		wantFault(t, api.ErrTree, 5, at(5, cascaded(self(), at(6, m), at(7, null()))))
		// There is no room for the Dup: the message comes first.
		filled := append(filling(api.MaxCode-1), at(5, cascaded(self(), at(6, m), at(7, sent("a")))))
		wantFault(t, api.ErrTree, 6, filled...)
		filled[len(filled)-1].Kids[1] = at(6, sent("a", at(8, plain(0))))
		wantFault(t, api.ErrLong, 6, filled...)
	}
	wantFault(t, api.ErrTree, 4, at(5, cascaded(at(4, plain(23)), at(6, sent("")))))
}

// filling is statements that take so many words, 0 or 2 at least, each with a Pop behind it.
func filling(words int) []api.Bound {
	var list []api.Bound
	if words%2 == 1 {
		list = append(list, integer(1))
		words -= 3
	}
	return append(list, slices.Repeat(kids(null()), words/2)...)
}

// part is an instruction's length, and the place of the node for which it is laid.
type part struct{ words, at int }

// wantPlaces lets a statement begin at every place so near the end of all words
// that one of its instructions finds no room, and wants the fault there.
func wantPlaces(t *testing.T, statement api.Bound, parts ...part) {
	t.Helper()
	ends := append(parts, part{1, statement.At}, part{1, statement.At}, part{1, statement.At}) // Pop, Self, Return
	if statement.Kind == api.BoundReturn {
		ends = parts
	}
	whole := 0
	for _, p := range ends {
		whole += p.words
	}
	for room := range whole {
		place, taken := 0, 0
		for _, p := range ends {
			if taken += p.words; taken > room {
				place = p.at
				break
			}
		}
		wantFault(t, api.ErrLong, place, append(filling(api.MaxCode-room), statement)...)
	}
	got, fault := gen.Make(method(append(filling(api.MaxCode-whole), statement)...), table(t, 99))
	if fault != (api.Fault{}) || len(got.Words) != api.MaxCode {
		t.Fatalf("%+v: %d words, %+v", statement, len(got.Words), fault)
	}
	wantSound(t, got)
}

// P10.1: an instruction that finds no room is told at the place of the node for which it is laid.
func TestPlacesOfWords(t *testing.T) {
	one := at(101, integer(1))
	p1, end := part{2, 101}, part{1, 50}
	wantPlaces(t, at(50, null()), part{1, 50})
	for _, n := range []api.Bound{integer(1), text("t"), array(at(9, named("s"))), named("s"), field(1), global(1), class(1)} {
		wantPlaces(t, at(50, n), part{2, 50})
	}
	wantPlaces(t, at(50, temp(0, 1)), part{3, 50})
	wantPlaces(t, at(50, assigned(at(60, field(1)), one)), p1, part{2, 50})
	wantPlaces(t, at(50, assigned(at(60, global(1)), one)), p1, part{2, 50})
	wantPlaces(t, at(50, assigned(at(60, temp(0, 1)), one)), p1, part{3, 50})
	wantPlaces(t, at(50, sent("a", one, at(102, null()))), p1, part{1, 102}, part{3, 50})
	wantPlaces(t, at(50, superSent("a", one, at(102, null()))), end, p1, part{1, 102}, part{3, 50})
	wantPlaces(t, at(50, cascaded(at(60, self()), at(61, sent("a", one)), at(62, superSent("b", one)), at(63, sent("c", one)))),
		part{1, 60}, part{1, 61}, p1, part{3, 61}, part{1, 61}, part{1, 62}, p1, part{3, 62}, part{1, 62}, p1, part{3, 63})
	wantPlaces(t, at(50, block(0, 0)), part{4, 50}, end, end)
	wantPlaces(t, at(50, block(0, 0, one, at(102, null()))), part{4, 50}, p1, part{1, 101}, part{1, 102}, end)
	wantPlaces(t, at(50, block(0, 0, at(60, returned(1, one)))), part{4, 50}, p1, part{1, 60})
	wantPlaces(t, at(50, returned(0, one)), p1, end)
	wantPlaces(t, at(50, chosen(1, one, at(60, clearing([]int{1, 2})))), p1, part{2, 50}, part{1, 60}, part{3, 60}, part{1, 60}, part{1, 60}, part{3, 60}, part{1, 60}, part{1, 60}, part{2, 50}, end)
	for number := 1; number <= 6; number++ {
		n := at(50, chosen(number, one, at(60, body(one, at(102, null())))))
		parts := []part{p1, {2, 50}, p1, {1, 101}, {1, 102}, {2, 50}, end}
		if number == 3 || number == 4 {
			n.Kids = append(n.Kids, at(61, body(one)))
			parts[6] = p1
		}
		wantPlaces(t, n, parts...)
	}
	wantPlaces(t, at(50, looped(1, at(60, body(one)), at(61, body()))), p1, part{2, 50}, part{1, 61}, end, part{2, 50}, end)
	wantPlaces(t, at(50, counted(0, one, at(102, null()), at(61, body()))), p1, part{1, 102}, part{3, 50}, part{1, 61}, end, part{3, 50}, end)
	// What a method without statements takes is always there; 4096 words are behind the last return.
	wantFault(t, api.ErrLong, 50, append(filling(api.MaxCode-2), at(50, returned(0, integer(1))))...)
}

// deep is a value that is computed with so many cells beneath it.
func deep(cells int, inner api.Bound) api.Bound {
	for range cells {
		inner = sent("+", null(), inner)
	}
	return inner
}

// wantPlacesOfStack lets a node be computed over so many cells that there is
// room for none, one and more on the stack, but fewer than it takes; places are
// those of the nodes whose instructions are the first to want one more.
func wantPlacesOfStack(t *testing.T, n api.Bound, places ...int) {
	t.Helper()
	for room, place := range places {
		wantFault(t, api.ErrLong, place, deep(api.MaxStack-room, n))
	}
	got, fault := gen.Make(method(deep(api.MaxStack-len(places), n)), table(t, 99))
	if fault != (api.Fault{}) || got.Stack != api.MaxStack {
		t.Fatalf("%+v: %d, %+v", n, got.Stack, fault)
	}
	wantSound(t, got)
	if got, _ := gen.Make(method(deep(api.MaxStack-len(places)-1, n)), table(t, 99)); got.Stack != api.MaxStack-1 {
		t.Fatalf("%+v: %d", n, got.Stack)
	}
}

// P10.1, P10.2: where the stack becomes too deep, and how deep it becomes.
func TestPlacesOfStack(t *testing.T) {
	one, two := at(101, integer(1)), at(102, integer(2))
	for _, n := range []api.Bound{null(), self(), integer(1), text("t"), array(), named("s"), class(1), field(1), temp(0, 0), global(1), block(0, 0)} {
		wantPlacesOfStack(t, at(50, n), 50)
	}
	wantPlacesOfStack(t, at(50, sent("a", one, two, at(103, null()))), 101, 102, 103)
	wantPlacesOfStack(t, at(50, superSent("a", one, two)), 50, 101, 102)
	wantPlacesOfStack(t, at(50, superSent("a")), 50)
	wantPlacesOfStack(t, at(50, cascaded(one, at(60, sent("a")), at(61, sent("b")))), 101, 60)
	wantPlacesOfStack(t, at(50, cascaded(one, at(60, sent("a", two)), at(61, sent("b", two)))), 101, 60, 102)
	wantPlacesOfStack(t, at(50, cascaded(one, at(60, sent("a")), at(61, sent("b", two, at(103, null()))))), 101, 60, 103)
	wantPlacesOfStack(t, at(50, assigned(field(1), one)), 101)
	wantPlacesOfStack(t, at(50, chosen(1, one, at(60, clearing([]int{1})))), 101)
	wantPlacesOfStack(t, at(50, chosen(3, one, body(), body(sent("a", two, at(103, null()))))), 101, 103)
	wantPlacesOfStack(t, at(50, looped(1, body(one), body(sent("a", two, at(103, null()))))), 101, 103)
	wantPlacesOfStack(t, at(50, counted(1, one, two, at(60, body()))), 101, 102)
	wantPlacesOfStack(t, at(50, counted(1, one, two, at(60, body(sent("a", null(), at(103, null())))))), 101, 102, 103)
	wantPlacesOfStack(t, at(50, counted(1, one, two, at(60, clearing([]int{2}, two)))), 101, 102)
	// A block's stack is its own, and as deep as that of the method may be.
	got, fault := gen.Make(method(deep(20, block(0, 0, deep(255, one)))), table(t, 9))
	if fault != (api.Fault{}) || got.Stack != 256 {
		t.Fatalf("%d, %+v", got.Stack, fault)
	}
	wantFault(t, api.ErrLong, 101, block(0, 0, deep(256, one)))
	wantFault(t, api.ErrLong, 101, block(0, 0, block(0, 0, deep(256, one))))
}

// P10.2: instructions that are not come to make no stack deep, and are laid all the same.
func TestNotComeTo(t *testing.T) {
	x, one, home := field(0), integer(1), body(returned(0, integer(1)))
	high := sent("x", one, one, one, one)
	highWords := []int{5, 1, 5, 1, 5, 1, 5, 1, 17, 0, 3}
	words := func(lists ...[]int) []int { return slices.Concat(lists...) }
	end := []int{15, 1, 20}
	both := chosen(3, x, home, home)
	bothWords := []int{9, 0, 25, 5, 5, 1, 20, 23, 3, 5, 1, 20}
	wantMethod(t, 1, words(bothWords, end), both)
	wantMethod(t, 1, words(bothWords, []int{15}, highWords, end), both, high)
	// One way is enough: the first or the second goes on.
	wantMethod(t, 4, words([]int{9, 0, 25, 4, 5, 1, 23, 3, 5, 1, 20, 15}, highWords, end), chosen(3, x, body(one), home), high)
	wantMethod(t, 4, words([]int{9, 0, 25, 5, 5, 1, 20, 23, 2, 5, 1, 15}, highWords, end), chosen(3, x, home, body(one)), high)
	wantMethod(t, 4, words([]int{9, 0, 25, 5, 5, 1, 20, 23, 1, 2, 15}, highWords, end), chosen(1, x, home), high)
	// The condition of a loop returns: neither its body nor what stands behind it is come to.
	wantMethod(t, 1, words([]int{5, 1, 20, 25, 14}, highWords, []int{15, 26, 19, 2, 15}, highWords, end), looped(1, home, body(high)), high)
	// The body returns: the end is come to from the condition, with nothing of the body on the stack.
	wantMethod(t, 4, words([]int{9, 0, 25, 6, 5, 1, 20, 15, 26, 10, 2, 15}, highWords, end), looped(1, body(x), home), high)
	wantMethod(t, 4, words([]int{5, 1, 5, 1, 27, 3, 7, 5, 1, 20, 15, 28, 3, 7, 2, 15}, highWords, end), counted(3, one, one, home), high)
	// Not even from the condition.
	wantMethod(t, 1, words(bothWords, []int{25, 6, 5, 1, 20, 15, 26, 20, 2, 15}, highWords, end), looped(1, body(both), home), high)
	wantMethod(t, 1, words(bothWords, []int{5, 1, 27, 3, 15}, highWords, []int{15, 28, 3, 15, 2}, end), counted(3, both, one, body(high)))
	// A block that is not made is not run.
	wantMethod(t, 1, words(bothWords, []int{15, 19, 0, 0, 12}, highWords, []int{22}, end), both, block(0, 0, high))
	wantMethod(t, 4, words([]int{19, 0, 0, 12}, highWords, []int{22}, end), block(0, 0, high))
	// What stands behind a block is come to, however the block ends.
	out := body(returned(1, one))
	outWords := []int{9, 0, 25, 5, 5, 1, 21, 23, 3, 5, 1, 21}
	wantMethod(t, 4, words([]int{19, 0, 0, 13}, outWords, []int{22, 15}, highWords, end), block(0, 0, chosen(3, x, out, out)), high)
	wantMethod(t, 1, words([]int{19, 0, 0, 25}, outWords, []int{15}, highWords, []int{22}, end), block(0, 0, chosen(3, x, out, out), high))
	wantMethod(t, 4, words([]int{19, 0, 0, 3, 5, 1, 21, 15}, highWords, end), block(0, 0, returned(1, one)), high)
	// What stands behind both within one node.
	wantMethod(t, 2, words([]int{2}, bothWords, []int{5, 1, 5, 1, 17, 0, 3}, end), sent("x", null(), both, one, one))
	wantMethod(t, 1, words(bothWords, []int{16, 5, 1, 5, 1, 5, 1, 17, 0, 3, 15, 5, 1, 17, 0, 1}, end), cascaded(both, sent("x", one, one, one), sent("x", one)))
	// No stack is too deep where nothing comes to; but words are too many.
	got, fault := gen.Make(method(both, deep(300, one), block(0, 0, deep(300, one))), table(t, 9))
	if fault != (api.Fault{}) || got.Stack != 1 {
		t.Fatalf("%d, %+v", got.Stack, fault)
	}
	wantFault(t, api.ErrLong, 9, append(append(kids(both), filling(api.MaxCode-13)...), at(9, null()))...)
}

// elements is statements of literal arrays that have so many elements in all.
func elements(count int) []api.Bound {
	var list []api.Bound
	flat := func(n int) api.Bound { return array(slices.Repeat(kids(null()), n)...) }
	for count > 32 {
		outer := array()
		for len(outer.Kids) < 32 && count > 0 {
			n := min(count-1, 32)
			outer.Kids = append(outer.Kids, flat(n))
			count -= n + 1
		}
		list = append(list, outer)
	}
	return append(list, flat(count))
}

// P10.1: how many literals, and how many elements of arrays, there may be.
func TestManyLiterals(t *testing.T) {
	many := slices.Repeat(kids(text("t"), array(null())), 32)
	got, fault := gen.Make(method(many...), table(t, 0))
	if fault != (api.Fault{}) || len(got.Literals) != 64 {
		t.Fatalf("%d literals, %+v", len(got.Literals), fault)
	}
	for _, one := range []api.Bound{text("t"), array(), array(at(9, plain(0))), array(at(9, named("new")))} {
		wantRefused(t, method(append(many, at(8, one))...), table(t, 0), api.ErrLong, 8)
		wantRefused(t, method(append(many, block(0, 0, at(8, one)))...), table(t, 0), api.ErrLong, 8)
	}
	for _, wrong := range []api.Bound{text(strings.Repeat("t", 257)), array(slices.Repeat(kids(null()), 33)...)} {
		wantFault(t, api.ErrTree, 8, append(many, at(8, wrong))...)
	}

	for _, count := range []int{0, 32, 33, 1056, 1057, 4095, 4096} {
		if got, fault := gen.Make(method(elements(count)...), table(t, 0)); fault != (api.Fault{}) || countItems(got.Literals) != count {
			t.Fatalf("%d elements: %d, %+v", count, countItems(got.Literals), fault)
		}
	}
	nope, fresh := at(9, plain(0)), at(9, named("new"))
	for _, c := range []struct {
		ahead int
		list  api.Bound
		code  api.Errno
		place int
	}{
		{4096, array(), api.OK, 0}, {4096, array(at(9, null())), api.ErrLong, 9}, {4095, array(at(9, null())), api.OK, 0}, {4095, array(at(8, null()), at(9, null())), api.ErrLong, 9},
		{4095, array(at(8, array())), api.OK, 0}, {4096, array(at(8, array())), api.ErrLong, 8}, {4095, array(at(8, array(at(9, null())))), api.ErrLong, 9}, {4094, array(at(8, array(at(9, null())))), api.OK, 0},
		{4096, array(nope), api.ErrTree, 9}, {4096, array(at(9, class(1))), api.ErrTree, 9}, {4096, array(at(9, integer(1<<30))), api.ErrTree, 9}, {4096, array(at(9, named(""))), api.ErrTree, 9},
		{4096, array(at(9, array(slices.Repeat(kids(null()), 33)...))), api.ErrTree, 9}, {4096, array(fresh), api.ErrLong, 9}, {4095, array(fresh), api.ErrSymbols, 9},
		{4096, array(at(8, array(nope))), api.ErrLong, 8}, {4095, array(at(8, array(nope))), api.ErrTree, 9}, {4096, block(0, 0, array(at(9, null()))), api.ErrLong, 9},
	} {
		m := method(append(elements(c.ahead), at(7, c.list))...)
		if c.code != api.OK {
			wantRefused(t, m, table(t, 0), c.code, c.place)
		} else if _, fault := gen.Make(m, table(t, 0)); fault != (api.Fault{}) {
			t.Fatalf("%d elements and %+v: %+v", c.ahead, c.list, fault)
		}
	}
}

func countItems(list []api.Lit) int {
	count := 0
	for _, l := range list {
		count += len(l.Items) + countItems(l.Items)
	}
	return count
}

// P10.1: of several faults the first that is met is told.
func TestOrder(t *testing.T) {
	full := func() *symbol.Table { return table(t, 1, "+") }
	nope, fresh := at(9, plain(0)), at(8, named("new"))
	// A node ahead of its kids, a kid ahead of the next one, kids ahead of the instruction.
	wantRefused(t, method(at(5, sent("", nope))), full(), api.ErrTree, 5)
	wantRefused(t, method(at(5, sent("new", nope))), full(), api.ErrTree, 9)
	wantRefused(t, method(at(5, sent("new", fresh, nope))), full(), api.ErrSymbols, 8)
	wantRefused(t, method(at(5, sent("new", null()))), full(), api.ErrSymbols, 5)
	wantRefused(t, method(at(5, superSent("new", nope))), full(), api.ErrTree, 9)
	wantRefused(t, method(fresh, nope), full(), api.ErrSymbols, 8)
	wantRefused(t, method(nope, fresh), full(), api.ErrTree, 9)
	wantRefused(t, method(at(5, cascaded(fresh, at(6, sent("")), nope))), full(), api.ErrTree, 5)
	wantRefused(t, method(at(5, cascaded(fresh, at(6, sent(""))))), full(), api.ErrSymbols, 8)
	wantRefused(t, method(at(5, chosen(1, fresh, nope))), full(), api.ErrTree, 5)
	wantRefused(t, method(at(5, chosen(1, fresh, at(6, clearing([]int{-1}))))), full(), api.ErrSymbols, 8)
	wantRefused(t, method(at(5, chosen(3, null(), body(fresh), at(6, clearing([]int{-1}))))), full(), api.ErrSymbols, 8)
	wantRefused(t, method(at(5, looped(1, body(fresh), at(6, clearing([]int{-1}))))), full(), api.ErrSymbols, 8)
	wantRefused(t, method(at(5, counted(-1, fresh, null(), body()))), full(), api.ErrTree, 5)
	wantRefused(t, method(at(5, array(fresh, nope))), full(), api.ErrSymbols, 8)
	wantRefused(t, method(at(5, array(nope, fresh))), full(), api.ErrTree, 9)
	wantRefused(t, method(at(5, block(0, 0, fresh, nope))), full(), api.ErrSymbols, 8)
	wantRefused(t, method(at(5, returned(1, fresh))), full(), api.ErrTree, 5)
	wantRefused(t, method(at(5, assigned(field(0), fresh))), full(), api.ErrSymbols, 8)
	// A symbol ahead of its instruction, an array's elements too.
	for _, room := range []int{0, 1} {
		wantRefused(t, method(append(filling(api.MaxCode-room), fresh)...), full(), api.ErrSymbols, 8)
		wantRefused(t, method(append(filling(api.MaxCode-room), array(fresh))...), full(), api.ErrSymbols, 8)
		wantRefused(t, method(append(filling(api.MaxCode-room), array(nope))...), full(), api.ErrTree, 9)
		wantRefused(t, method(append(filling(api.MaxCode-room), fresh)...), table(t, 1), api.ErrLong, 8)
		wantRefused(t, method(append(filling(api.MaxCode-room), at(7, block(0, 0, nope)))...), full(), api.ErrLong, 7)
		wantRefused(t, method(append(filling(api.MaxCode-room), at(7, null()), nope)...), full(), api.ErrLong, 7)
		wantRefused(t, method(append(filling(api.MaxCode-room), nope)...), full(), api.ErrTree, 9)
	}
	wantRefused(t, method(append(filling(api.MaxCode-1), at(7, sent("new", null())))...), full(), api.ErrSymbols, 7)
	wantRefused(t, method(append(filling(api.MaxCode-1), at(7, sent("+", null())))...), full(), api.ErrLong, 7)
	wantRefused(t, method(append(filling(api.MaxCode-1), at(7, superSent("+", nope)))...), full(), api.ErrTree, 9)
	wantRefused(t, method(append(filling(api.MaxCode), at(7, superSent("+", nope)))...), full(), api.ErrLong, 7)
	wantRefused(t, method(deep(256, fresh)), full(), api.ErrSymbols, 8)
	wantRefused(t, method(deep(256, at(7, null())), nope), full(), api.ErrLong, 7)
	wantRefused(t, method(deep(256, at(7, block(0, 0, nope)))), full(), api.ErrLong, 7)
	wantRefused(t, method(deep(256, nope)), full(), api.ErrTree, 9)
}

// P10.1: places are told as they are, whatever they are.
func TestPlaces(t *testing.T) {
	for _, place := range []int{math.MinInt, -1, 0, math.MaxInt} {
		wantFault(t, api.ErrTree, place, at(5, null()), at(place, plain(0)))
		wantFault(t, api.ErrLong, place, append(filling(api.MaxCode-2), at(place, null()))...)
		wantRefused(t, method(at(place, named("new"))), table(t, 0), api.ErrSymbols, place)
	}
}

// garnished is nodes with something in all that is not looked at.
func garnished(list []api.Bound) []api.Bound {
	out := slices.Clone(list)
	for i, n := range out {
		junk := api.Bound{Kind: n.Kind, Text: strings.Repeat("j", 300), Number: -1 << 40, At: n.At, Depth: -3, Index: 1 << 40, Params: -5, Slots: 99, Clear: []int{-7}, Kids: kids(plain(0), plain(99))}
		switch n.Kind {
		case api.BoundInt, api.BoundClass:
			junk.Number = n.Number
		case api.BoundText, api.BoundSymbol:
			junk.Text = n.Text
		case api.BoundField, api.BoundGlobal:
			junk.Index = n.Index
		case api.BoundTemp:
			junk.Depth, junk.Index = n.Depth, n.Index
		case api.BoundArray, api.BoundAssign, api.BoundCascade:
			junk.Kids = garnished(n.Kids)
		case api.BoundSend, api.BoundSuper:
			junk.Text, junk.Kids = n.Text, garnished(n.Kids)
		case api.BoundBlock:
			junk.Params, junk.Slots, junk.Kids = n.Params, n.Slots, garnished(n.Kids)
		case api.BoundReturn:
			junk.Depth, junk.Kids = n.Depth, garnished(n.Kids)
		case api.BoundIf, api.BoundWhile:
			junk.Number, junk.Kids = n.Number, garnished(n.Kids)
		case api.BoundToDo:
			junk.Index, junk.Kids = n.Index, garnished(n.Kids)
		case api.BoundBody:
			junk.Clear, junk.Kids = n.Clear, garnished(n.Kids)
		}
		out[i] = junk
	}
	return out
}

// everything is a tree in which all kinds of nodes are.
func everything(t *testing.T) api.Scoped {
	t.Helper()
	source := "foo: a | t u | t := [:b :c | | d e | #(1 #(2 'x') #y nil true false) foo: b; bar: d + e; baz. [^a]]. " +
		"a ifTrue: [| f g | f. 'text'] ifFalse: [| h | G := h]. [| i | x] whileTrue: [| j k | Point]. 1 to: u do: [:l | | m n | m foo: n bar: l]. " +
		"y := a and: [#sym]. a or: [^nil]. super foo: t bar: y; baz. true. false. self. 'more'. #(#(#(#z))). ^super baz: 'text'"
	s, fault := parse.Method(source)
	if fault != (api.Fault{}) {
		t.Fatalf("%q: %+v", source, fault)
	}
	m, fault := scope.Resolve(s, api.Names{Fields: []string{"x", "y"}, Classes: []string{"Object", "Point"}, Globals: []string{"G"}})
	if fault != (api.Fault{}) {
		t.Fatalf("%q: %+v", source, fault)
	}
	return m
}

// P10.1: what is told of no kind of node is not looked at.
func TestNotLookedAt(t *testing.T) {
	m, x := everything(t), table(t, 99)
	want, fault := gen.Make(m, x)
	if fault != (api.Fault{}) || len(want.Words) < 100 || len(want.Literals) != 5 {
		t.Fatalf("%+v, %+v", want, fault)
	}
	wantSound(t, want)
	m.Selector, m.Body = "", garnished(m.Body)
	wantCode(t, m, table(t, 99), want)
	m = api.Scoped{Body: garnished(kids(null(), plain(api.BoundTrue), plain(api.BoundFalse), self(), array(null(), plain(api.BoundTrue), plain(api.BoundFalse))))}
	wantCode(t, m, table(t, 0), api.Code{Stack: 1, Words: []int{2, 15, 3, 15, 4, 15, 1, 15, 6, 0, 15, 1, 20},
		Literals: []api.Lit{{Kind: api.LitArray, Items: []api.Lit{{Kind: api.LitNil}, {Kind: api.LitTrue}, {Kind: api.LitFalse}}}}})
}

// P10.3: the same tree with the same table gives the same code, and adds nothing the second time.
func TestSameAgain(t *testing.T) {
	m, x := everything(t), table(t, 99, "foo:bar:", "q")
	first, fault := gen.Make(m, x)
	if fault != (api.Fault{}) {
		t.Fatalf("%+v", fault)
	}
	texts := x.All()
	wantTexts(t, x, "foo:bar:", "q", "y", "foo:", "+", "bar:", "baz", "sym", "z", "baz:")
	wantCode(t, m, x, first)
	wantTexts(t, x, texts...)
	wantCode(t, m, table(t, 10, "foo:bar:", "q"), first)
	wantCode(t, m, table(t, 10, texts...), first)
	wantRefused(t, m, table(t, 9, "foo:bar:", "q"), api.ErrSymbols, m.Body[len(m.Body)-1].Kids[0].At)
}

// nested is an expression with so many others within one another.
func nested(depth int, inner api.Bound, around func(api.Bound) api.Bound) api.Bound {
	for range depth {
		inner = around(inner)
	}
	return inner
}

// P10.4: trees as deep as may be are gone through, whether something is refused at their end or on the way back.
func TestDeepTrees(t *testing.T) {
	one := at(7, integer(1))
	for _, around := range []func(api.Bound) api.Bound{
		func(n api.Bound) api.Bound { return sent("a", n) },
		func(n api.Bound) api.Bound { return sent("a", n, one) },
		func(n api.Bound) api.Bound { return assigned(field(0), n) },
		func(n api.Bound) api.Bound { return cascaded(n, at(7, sent("a")), at(7, sent("b"))) },
		func(n api.Bound) api.Bound { return chosen(1, n, at(7, body())) },
		func(n api.Bound) api.Bound { return looped(1, body(n), at(7, body())) },
		func(n api.Bound) api.Bound { return counted(0, n, one, at(7, body())) },
	} {
		wantFault(t, api.ErrTree, 8, nested(1<<15-2, at(8, plain(0)), around))
		wantFault(t, api.ErrLong, 7, nested(1<<15-2, one, func(n api.Bound) api.Bound { return at(7, around(n)) }))
	}
	wantFault(t, api.ErrTree, 8, nested(1<<16-2, at(8, plain(0)), func(n api.Bound) api.Bound { return sent("a", n) }))
	place := 1<<16 - 1
	wantFault(t, api.ErrTree, 25, nested(1<<16-2, null(), func(n api.Bound) api.Bound {
		place--
		return at(place, block(0, 0, n))
	}))
	wantFault(t, api.ErrLong, 8, array(nested(1<<16-2, null(), func(n api.Bound) api.Bound { return at(8, array(n)) })))
	deepest, fault := gen.Make(method(array(nested(4095, null(), func(n api.Bound) api.Bound { return array(n) }))), table(t, 0))
	if fault != (api.Fault{}) || countItems(deepest.Literals) != 4096 {
		t.Fatalf("%+v", fault)
	}
}

// P10.4: a tree whose nodes share their lists is longer than any code, and is soon refused.
func TestSharedLists(t *testing.T) {
	for _, two := range []func(api.Bound) api.Bound{
		func(n api.Bound) api.Bound { return sent("a", n, n, n) },
		func(n api.Bound) api.Bound { return chosen(3, n, body(n, n), body(n)) },
		func(n api.Bound) api.Bound { return looped(1, body(n), body(n)) },
		func(n api.Bound) api.Bound { return counted(0, n, n, body(n)) },
		func(n api.Bound) api.Bound { return cascaded(n, at(3, sent("a", n)), at(3, sent("b", n))) },
		func(n api.Bound) api.Bound { return array(n, n) },
	} {
		wantFault(t, api.ErrLong, 3, at(3, nested(60, at(3, null()), func(n api.Bound) api.Bound { return at(3, two(n)) })))
	}
	wide := slices.Repeat(kids(at(4, null())), 1<<16)
	wantFault(t, api.ErrLong, 4, wide...)
	wantFault(t, api.ErrLong, 4, block(0, 0, wide...))
	wantFault(t, api.ErrTree, 5, at(5, sent("a", wide...)))
	wantFault(t, api.ErrTree, 5, at(5, array(wide...)))
	wantFault(t, api.ErrLong, 5, chosen(1, null(), at(5, clearing(make([]int, 1<<16)))))
	wantFault(t, api.ErrLong, 6, cascaded(append(kids(null()), slices.Repeat(kids(at(6, sent("a"))), 1<<16)...)...))
}

// span is the memory of a list, spare room too, or of a text.
type span struct{ from, to uintptr }

func spanOf[T any](list []T) span {
	if cap(list) == 0 {
		return span{}
	}
	from := uintptr(unsafe.Pointer(unsafe.SliceData(list)))
	return span{from, from + uintptr(cap(list))*unsafe.Sizeof(list[:1][0])}
}

func spanOfText(s string) span {
	from := uintptr(unsafe.Pointer(unsafe.StringData(s)))
	return span{from, from + uintptr(len(s))}
}

func eachLit(list []api.Lit, do func(api.Lit)) {
	for _, l := range list {
		do(l)
		eachLit(l.Items, do)
	}
}

func eachNode(list []api.Bound, do func(api.Bound)) {
	for _, n := range list {
		do(n)
		eachNode(n.Kids, do)
	}
}

// P10.4: each list of an answer is memory of its own, that of a second answer too.
func TestNewMemory(t *testing.T) {
	var list []span
	m, x := everything(t), table(t, 99)
	for range 2 {
		code, _ := gen.Make(m, x)
		list = append(list, spanOf(code.Words), spanOf(code.Literals))
		eachLit(code.Literals, func(l api.Lit) { list = append(list, spanOf(l.Items)) })
	}
	eachNode(m.Body, func(n api.Bound) { list = append(list, spanOf(n.Kids), spanOf(n.Clear)) })
	list = slices.DeleteFunc(list, func(s span) bool { return s == span{} })
	slices.SortFunc(list, func(a, b span) int { return int(a.from) - int(b.from) })
	for i := range list[1:] {
		if list[i].to > list[i+1].from {
			t.Fatalf("two lists share memory: %v, %v", list[i], list[i+1])
		}
	}
}

// P10.4: no text of an answer, or of the table, is a piece of what was handed in.
func TestTextsAreCopies(t *testing.T) {
	m, x := everything(t), table(t, 99)
	var given []span
	eachNode(m.Body, func(n api.Bound) { given = append(given, spanOfText(n.Text)) })
	check := func(text string) {
		at := spanOfText(text)
		if slices.ContainsFunc(given, func(s span) bool { return at.from < s.to && s.from < at.to }) {
			t.Fatalf("%q is what was handed in", text)
		}
	}
	code, _ := gen.Make(m, x)
	eachLit(code.Literals, func(l api.Lit) { check(l.Text) })
	for _, text := range x.All() {
		check(text)
	}
}

// roomy is nodes whose lists have spare room, with something in it.
func roomy(list []api.Bound) []api.Bound {
	out := slices.Clone(list)
	for i, n := range out {
		out[i].Clear, out[i].Kids = append(slices.Clone(n.Clear), 77, 77)[:len(n.Clear)], roomy(n.Kids)
	}
	return append(out, integer(77), integer(78))[:len(list)]
}

// spread is nodes with the spare room of their lists told.
func spread(list []api.Bound) []api.Bound {
	out := slices.Clone(list[:cap(list)])
	for i, n := range out {
		out[i].Clear, out[i].Kids = slices.Clone(n.Clear[:cap(n.Clear)]), spread(n.Kids)
	}
	return out
}

// P10.4: what is handed in is left as it is, what lies behind its lists too; nil and empty lists mean the same.
func TestLeftAsItIs(t *testing.T) {
	whole := everything(t)
	broken := whole
	broken.Body = append(slices.Clone(whole.Body[:9]), at(3, plain(0)))
	for _, m := range []api.Scoped{whole, broken, method(), method(block(0, 0), array(), superSent("a"), chosen(1, null(), body()))} {
		want, fault := gen.Make(m, table(t, 99))
		m.Body = roomy(m.Body)
		was := spread(m.Body)
		got, again := gen.Make(m, table(t, 99))
		if fault != again || !same(got, want) {
			t.Fatalf("%+v answers %+v, %+v, then %+v, %+v", m, want, fault, got, again)
		}
		if !reflect.DeepEqual(was, spread(m.Body)) {
			t.Fatalf("%+v: what was handed in is changed", m)
		}
	}
}
