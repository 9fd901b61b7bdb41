package scope_test

import (
	"fmt"
	"math"
	"reflect"
	"slices"
	"strings"
	"testing"
	"unsafe"

	"kiln/api"
	"kiln/parse"
	"kiln/scope"
)

// Nodes of an answer, without their places.

func integer(n int) api.Bound { return api.Bound{Kind: api.BoundInt, Number: n} }
func self() api.Bound         { return api.Bound{Kind: api.BoundSelf} }

func field(name string, place int) api.Bound {
	return api.Bound{Kind: api.BoundField, Text: name, Index: place}
}

func temp(name string, depth, slot int) api.Bound {
	return api.Bound{Kind: api.BoundTemp, Text: name, Depth: depth, Index: slot}
}

func global(name string, place int) api.Bound {
	return api.Bound{Kind: api.BoundGlobal, Text: name, Index: place}
}

func class(name string, number int) api.Bound {
	return api.Bound{Kind: api.BoundClass, Text: name, Number: number}
}

func assigned(target, value api.Bound) api.Bound {
	return api.Bound{Kind: api.BoundAssign, Kids: []api.Bound{target, value}}
}

func sent(selector string, kids ...api.Bound) api.Bound {
	return api.Bound{Kind: api.BoundSend, Text: selector, Kids: kids}
}

func superSent(selector string, kids ...api.Bound) api.Bound {
	return api.Bound{Kind: api.BoundSuper, Text: selector, Kids: kids}
}

func cascaded(kids ...api.Bound) api.Bound { return api.Bound{Kind: api.BoundCascade, Kids: kids} }

func block(params, slots int, kids ...api.Bound) api.Bound {
	return api.Bound{Kind: api.BoundBlock, Params: params, Slots: slots, Kids: kids}
}

func returned(depth int, value api.Bound) api.Bound {
	return api.Bound{Kind: api.BoundReturn, Depth: depth, Kids: []api.Bound{value}}
}

func chosen(number int, kids ...api.Bound) api.Bound {
	return api.Bound{Kind: api.BoundIf, Number: number, Kids: kids}
}

func looped(number int, kids ...api.Bound) api.Bound {
	return api.Bound{Kind: api.BoundWhile, Number: number, Kids: kids}
}

func counted(slot int, kids ...api.Bound) api.Bound {
	return api.Bound{Kind: api.BoundToDo, Index: slot, Kids: kids}
}

func body(slots []int, kids ...api.Bound) api.Bound {
	return api.Bound{Kind: api.BoundBody, Clear: slots, Kids: kids}
}

func literal(kind int, text string, kids ...api.Bound) api.Bound {
	return api.Bound{Kind: kind, Text: text, Kids: kids}
}

func at(place int, b api.Bound) api.Bound {
	b.At = place
	return b
}

// copied is nodes as memory of their own, their lists nil where they are empty;
// change is done to each on the way.
func copied(list []api.Bound, change func(*api.Bound)) []api.Bound {
	var out []api.Bound
	for _, b := range list {
		b.Clear = append([]int(nil), b.Clear...)
		b.Kids = copied(b.Kids, change)
		change(&b)
		out = append(out, b)
	}
	return out
}

func unchanged(*api.Bound) {}

func same(a, b api.Scoped) bool {
	a.Body, b.Body = copied(a.Body, unchanged), copied(b.Body, unchanged)
	return reflect.DeepEqual(a, b)
}

func placeless(s api.Scoped) api.Scoped {
	s.Body = copied(s.Body, func(b *api.Bound) { b.At = 0 })
	return s
}

// names are those of the chapter's examples.
func names() api.Names {
	return api.Names{Fields: words("x y"), Classes: words("Object Point"), Globals: words("G")}
}

func words(s string) []string { return strings.Fields(s) }

// read is the tree of a source: of a method, if it begins with foo.
func read(t *testing.T, source string) api.Source {
	t.Helper()
	how := parse.Doit
	if strings.HasPrefix(source, "foo") {
		how = parse.Method
	}
	s, fault := how(source)
	if fault != (api.Fault{}) {
		t.Fatalf("%q is no source: %+v", source, fault)
	}
	return s
}

func resolved(t *testing.T, source string) api.Scoped {
	t.Helper()
	got, fault := scope.Resolve(read(t, source), names())
	if fault != (api.Fault{}) {
		t.Fatalf("%q: %+v", source, fault)
	}
	return got
}

// wantBody holds a source's answer against this one, but for places.
func wantBody(t *testing.T, source string, slots int, body ...api.Bound) {
	t.Helper()
	want := api.Scoped{Slots: slots, Body: body}
	if got := placeless(resolved(t, source)); !same(got, want) {
		t.Fatalf("%q:\n got %+v,\nwant %+v", source, got, want)
	}
}

func wantAnswer(t *testing.T, s api.Source, n api.Names, want api.Scoped) {
	t.Helper()
	if got, fault := scope.Resolve(s, n); fault != (api.Fault{}) || !same(got, want) {
		t.Fatalf("%+v of %+v:\n got %+v, %+v,\nwant %+v", s, n, got, fault, want)
	}
}

func wantRefused(t *testing.T, s api.Source, n api.Names, code api.Errno, place int) {
	t.Helper()
	got, fault := scope.Resolve(s, n)
	if fault != (api.Fault{Code: code, At: place}) || !reflect.DeepEqual(got, api.Scoped{}) {
		t.Fatalf("%.300s: %+v, %+v, want {%d %d}", fmt.Sprintf("%+v", s), got, fault, code, place)
	}
}

func wantFault(t *testing.T, source string, code api.Errno, place int) {
	t.Helper()
	wantRefused(t, read(t, source), names(), code, place)
}

// temporaries is the text of so many, their names beginning so.
func temporaries(prefix string, count int) string {
	s := "|"
	for i := range count {
		s += fmt.Sprint(" ", prefix, i)
	}
	return s + " | "
}

// The chapter's examples, in its order.
func TestExamples(t *testing.T) {
	one := integer(1)
	x, y := field("x", 0), field("y", 1)

	got := placeless(resolved(t, "foo: a | t | t := a + x. ^self"))
	want := api.Scoped{Selector: "foo:", Params: 1, Slots: 2, Body: []api.Bound{assigned(temp("t", 0, 1), sent("+", temp("a", 0, 0), x)), returned(0, self())}}
	if !same(got, want) {
		t.Fatalf("got %+v, want %+v", got, want)
	}

	inner := block(0, 0, assigned(temp("c", 1, 1), temp("a", 2, 0)))
	wantBody(t, "| a | [:b | | c | a := b. [c := a]]", 1, block(1, 2, assigned(temp("a", 1, 0), temp("b", 0, 0)), inner))

	wantBody(t, "| a | a ifTrue: [| b | b := 1] ifFalse: [| b | b]", 3,
		chosen(3, temp("a", 0, 0), body([]int{1}, assigned(temp("b", 0, 1), one)), body([]int{2}, temp("b", 0, 2))))

	wantBody(t, "1 to: 3 do: [:i | | j | [i]]", 2, counted(0, one, integer(3), body([]int{1}, block(0, 0, temp("i", 1, 0)))))

	wantBody(t, "[| a | a] whileTrue: [| b | b]", 2, looped(1, body([]int{0}, temp("a", 0, 0)), body([]int{1}, temp("b", 0, 1))))
	wantBody(t, "[:a | a] whileTrue: [1]", 0, sent("whileTrue:", block(1, 1, temp("a", 0, 0)), block(0, 0, one)))
	wantBody(t, "x ifTrue: y", 0, sent("ifTrue:", x, y))
	wantBody(t, "x ifTrue: [1]; foo", 0, cascaded(x, sent("ifTrue:", block(0, 0, one)), sent("foo")))
	wantBody(t, "super ifTrue: [1]", 0, superSent("ifTrue:", block(0, 0, one)))

	wantBody(t, "G := Point. x := G", 0, assigned(global("G", 0), class("Point", 2)), assigned(x, global("G", 0)))

	wantFault(t, "a := 1", api.ErrUnknown, 0)
	wantFault(t, "^b", api.ErrUnknown, 1)
	for _, source := range []string{"Point := 1", "self := 1", "nil := 1", "super := 1"} {
		wantFault(t, source, api.ErrStore, 0)
	}
	wantFault(t, "foo: a a := 1", api.ErrStore, 7)
	wantFault(t, "1 to: 2 do: [:i | i := 1]", api.ErrStore, 18)

	wantFault(t, "| x |", api.ErrTwice, 2)
	wantFault(t, "| a a |", api.ErrTwice, 4)
	wantFault(t, "| a | [:a]", api.ErrTwice, 8)
	wantBody(t, "[:a]. [:a]", 0, block(1, 1), block(1, 1))
	wantFault(t, "| self |", api.ErrReserved, 2)
	wantFault(t, "| Foo |", api.ErrReserved, 2)

	many := temporaries("v", 33)
	wantFault(t, many, api.ErrLong, strings.Index(many, "v32"))
	many = temporaries("v", 32)
	wantFault(t, many+"x ifTrue: [| w |]", api.ErrLong, len(many)+13)
	wantBody(t, many+"[| w | w]", 32, block(0, 1, temp("w", 0, 0)))

	wantBody(t, "super foo: 1; bar", 0, cascaded(self(), superSent("foo:", one), superSent("bar")))
	wantRefused(t, api.Source{Body: []api.Node{{}}}, names(), api.ErrTree, 0)
}

// P9.4: each kind of node has what the table tells, its place as it was, and nothing else.
func TestKinds(t *testing.T) {
	source := "foo: a #(1 'b' #c: #(-2 nil) true false). nil. true. false. self. 'd'. #e. G := Point. x := a foo: y. " +
		"super bar: 1. super + 2; b: 3. a foo; b: 4. [:b | | c | ^c]. " +
		"a ifTrue: [| t | t]. [] whileTrue: [1]. 1 to: 2 do: [:i | | j | i]. ^a"
	place := func(text string) int { return strings.Index(source, text) }
	a := func(place int) api.Bound { return at(place, temp("a", 0, 0)) }
	want := api.Scoped{Selector: "foo:", Params: 1, Slots: 4, Body: []api.Bound{
		at(7, literal(api.BoundArray, "", at(9, integer(1)), at(11, literal(api.BoundText, "b")), at(15, literal(api.BoundSymbol, "c:")),
			at(19, literal(api.BoundArray, "", at(21, integer(-2)), at(24, literal(api.BoundNil, "")))),
			at(29, literal(api.BoundTrue, "")), at(34, literal(api.BoundFalse, "")))),
		at(42, literal(api.BoundNil, "")), at(47, literal(api.BoundTrue, "")), at(53, literal(api.BoundFalse, "")), at(60, self()),
		at(66, literal(api.BoundText, "d")), at(71, literal(api.BoundSymbol, "e")),
		at(75, assigned(at(75, global("G", 0)), at(80, class("Point", 2)))),
		at(87, assigned(at(87, field("x", 0)), at(94, sent("foo:", a(92), at(99, field("y", 1)))))),
		at(place("bar:"), superSent("bar:", at(place("1. super"), integer(1)))),
		at(place("; b: 3"), cascaded(at(place("super + 2"), self()), at(place("+ 2"), superSent("+", at(place("2; b: 3"), integer(2)))),
			at(place("b: 3"), superSent("b:", at(place("3. a foo"), integer(3)))))),
		at(place("; b: 4"), cascaded(a(place("a foo; b")), at(place("foo; b"), sent("foo")), at(place("b: 4"), sent("b:", at(place("4. [:b"), integer(4)))))),
		at(place("[:b"), block(1, 2, at(place("^c"), returned(1, at(place("c]"), temp("c", 0, 1)))))),
		at(place("ifTrue:"), chosen(1, a(place("a ifTrue:")), at(place("[| t"), body([]int{1}, at(place("t]"), temp("t", 0, 1)))))),
		at(place("whileTrue:"), looped(1, at(place("[] while"), body(nil)), at(place("[1]"), body(nil, at(place("1]"), integer(1)))))),
		at(place("to:"), counted(2, at(place("1 to:"), integer(1)), at(place("2 do:"), integer(2)), at(place("[:i"), body([]int{3}, at(place("i]"), temp("i", 0, 2)))))),
		at(place("^a"), returned(0, a(len(source)-1))),
	}}
	wantAnswer(t, read(t, source), names(), want)
	wantAnswer(t, api.Source{}, api.Names{}, api.Scoped{})
	wantAnswer(t, read(t, "foo"), api.Names{}, api.Scoped{Selector: "foo"})
}

// P9.4: which sends are inlined, and with which numbers.
func TestInlined(t *testing.T) {
	x, empty, plain := field("x", 0), body(nil), block(0, 0)
	for selector, number := range map[string]int{"ifTrue:": 1, "ifFalse:": 2, "and:": 5, "or:": 6} {
		wantBody(t, "x "+selector+" []", 0, chosen(number, x, empty))
		wantBody(t, "[] "+selector+" []", 0, chosen(number, plain, empty))
		wantBody(t, "x "+selector+" [:a]", 0, sent(selector, x, block(1, 1)))
		wantBody(t, "x "+selector+" x", 0, sent(selector, x, x))
		wantBody(t, "super "+selector+" []", 0, superSent(selector, plain))
		wantBody(t, "x "+selector+" []; "+selector+" []", 0, cascaded(x, sent(selector, plain), sent(selector, plain)))
		wantBody(t, "x a; "+selector+" []", 0, cascaded(x, sent("a"), sent(selector, plain)))
		wantBody(t, "(x "+selector+" []) a; b", 0, cascaded(chosen(number, x, empty), sent("a"), sent("b")))
		wantBody(t, "x a; b: (x "+selector+" [])", 0, cascaded(x, sent("a"), sent("b:", chosen(number, x, empty))))
	}
	for selector, number := range map[string]int{"ifTrue: A ifFalse: B": 3, "ifFalse: A ifTrue: B": 4} {
		with := func(a, b string) string {
			return "x " + strings.NewReplacer("A", a, "B", b).Replace(selector)
		}
		text := strings.NewReplacer("A", "", "B", "", " ", "").Replace(selector)
		wantBody(t, with("[]", "[]"), 0, chosen(number, x, empty, empty))
		wantBody(t, with("x", "[]"), 0, sent(text, x, x, plain))
		wantBody(t, with("[]", "x"), 0, sent(text, x, plain, x))
		wantBody(t, with("[:a]", "[]"), 0, sent(text, x, block(1, 1), plain))
		wantBody(t, with("[]", "[:a]"), 0, sent(text, x, plain, block(1, 1)))
	}
	for selector, number := range map[string]int{"whileTrue:": 1, "whileFalse:": 2} {
		wantBody(t, "[] "+selector+" []", 0, looped(number, empty, empty))
		wantBody(t, "x "+selector+" []", 0, sent(selector, x, plain))
		wantBody(t, "[] "+selector+" x", 0, sent(selector, plain, x))
		wantBody(t, "[] "+selector+" [:a]", 0, sent(selector, plain, block(1, 1)))
		wantBody(t, "[:a] "+selector+" []", 0, sent(selector, block(1, 1), plain))
		wantBody(t, "super "+selector+" []", 0, superSent(selector, plain))
		wantBody(t, "[] "+selector+" []; a", 0, cascaded(plain, sent(selector, plain), sent("a")))
	}
	wantBody(t, "x to: x do: [:a]", 1, counted(0, x, x, empty))
	wantBody(t, "[:a] to: [:a] do: [:a]", 1, counted(0, block(1, 1), block(1, 1), empty))
	wantBody(t, "x to: [:a] do: x", 0, sent("to:do:", x, block(1, 1), x))
	wantBody(t, "x to: x do: []", 0, sent("to:do:", x, x, plain))
	wantBody(t, "x to: x do: [:a :b]", 0, sent("to:do:", x, x, block(2, 2)))
	wantBody(t, "super to: x do: [:a]", 0, superSent("to:do:", x, block(1, 1)))
	wantBody(t, "x to: x do: [:a]; b", 0, cascaded(x, sent("to:do:", x, block(1, 1)), sent("b")))
	for _, selector := range words("ifTrue ifNil: whileTrue: do: to:by:do: iftrue:") {
		source := "x " + strings.ReplaceAll(selector, ":", ": [] ")
		if got := resolved(t, source); got.Body[0].Kind != api.BoundSend {
			t.Fatalf("%q: %+v", source, got)
		}
	}
}

// P9.4: an inlined block's names have the next slots of the real scope around it, when it is walked through.
func TestSlots(t *testing.T) {
	x := field("x", 0)
	wantBody(t, "| a | x ifTrue: [| b | x and: [| c | c]. b]. x or: [| b | b]. a", 4,
		chosen(1, x, body([]int{1}, chosen(5, x, body([]int{2}, temp("c", 0, 2))), temp("b", 0, 1))),
		chosen(6, x, body([]int{3}, temp("b", 0, 3))), temp("a", 0, 0))
	wantBody(t, "[:a | x ifTrue: [| b c | [:d | x ifTrue: [| e | e. b. a]. c]]]", 0,
		block(1, 3, chosen(1, x, body([]int{1, 2}, block(1, 2, chosen(1, x, body([]int{1}, temp("e", 0, 1), temp("b", 1, 1), temp("a", 1, 0))), temp("c", 1, 2))))))
	wantBody(t, "x to: (x or: [| a | a]) do: [:i | | j k | [| l | l. k]. i to: j do: [:m | m]]. [| n | n]", 5,
		counted(1, x, chosen(6, x, body([]int{0}, temp("a", 0, 0))), body([]int{2, 3}, block(0, 1, temp("l", 0, 0), temp("k", 1, 3)),
			counted(4, temp("i", 0, 1), temp("j", 0, 2), body(nil, temp("m", 0, 4))))), block(0, 1, temp("n", 0, 0)))
	wantBody(t, "[| a | [| b | a] value] whileFalse: [| b | [| a | b]. b]", 2,
		looped(2, body([]int{0}, sent("value", block(0, 1, temp("a", 1, 0)))), body([]int{1}, block(0, 1, temp("b", 1, 1)), temp("b", 0, 1))))
	wantBody(t, "(x and: [| a | a]) foo: (x or: [| a | a]); bar: (x or: [| a | a])", 3,
		cascaded(chosen(5, x, body([]int{0}, temp("a", 0, 0))), sent("foo:", chosen(6, x, body([]int{1}, temp("a", 0, 1)))), sent("bar:", chosen(6, x, body([]int{2}, temp("a", 0, 2))))))
	wantBody(t, "x := x and: [| a | ^x or: [| b | b]]", 2,
		assigned(x, chosen(5, x, body([]int{0}, returned(0, chosen(6, x, body([]int{1}, temp("b", 0, 1))))))))
}

// P9.4: a return tells the real blocks that it stands in, and no inlined ones.
func TestReturns(t *testing.T) {
	x, one := field("x", 0), integer(1)
	wantBody(t, "[x ifTrue: [^1]. x to: x do: [:i | [^1]]. ^1]", 0,
		block(0, 1, chosen(1, x, body(nil, returned(1, one))), counted(0, x, x, body(nil, block(0, 0, returned(2, one)))), returned(1, one)))
	wantBody(t, "[[x]]. [^x] whileTrue: [^1]. ^[^[^1]]", 0, block(0, 0, block(0, 0, x)), looped(1, body(nil, returned(0, x)), body(nil, returned(0, one))),
		returned(0, block(0, 0, returned(1, block(0, 0, returned(2, one))))))
}

// P9.2: what a parameter or a temporary is refused for.
func TestNames(t *testing.T) {
	for _, name := range words("self super nil true false A Foo Point G X") {
		wantFault(t, "| "+name+" |", api.ErrReserved, 2)
		wantFault(t, "foo: "+name, api.ErrReserved, 5)
		wantFault(t, "[:"+name+"]", api.ErrReserved, 2)
		wantFault(t, "[:a | | "+name+" |]", api.ErrReserved, 8)
		wantFault(t, "x ifTrue: [| "+name+" |]", api.ErrReserved, 13)
		wantFault(t, "x to: x do: [:"+name+" | ]", api.ErrReserved, 14)
	}
	for _, name := range words("a z aA z9 selfish object point g nile") {
		wantBody(t, "| "+name+" |", 1)
		wantBody(t, "x to: x do: [:"+name+"]", 1, counted(0, field("x", 0), field("x", 0), body(nil)))
	}
	for _, name := range words("x y") {
		wantFault(t, "| a "+name+" |", api.ErrTwice, 4)
		wantFault(t, "foo: "+name, api.ErrTwice, 5)
		wantFault(t, "[:a | [:"+name+"]]", api.ErrTwice, 8)
		wantFault(t, "x and: [| "+name+" |]", api.ErrTwice, 10)
	}
	wantFault(t, "foo: a | a |", api.ErrTwice, 9)
	wantFault(t, "foo: a bar: a", api.ErrTwice, 12)
	wantFault(t, "[:a :a]", api.ErrTwice, 5)
	wantFault(t, "[:a | | a |]", api.ErrTwice, 8)
	wantFault(t, "[:a | [[| b a |]]]", api.ErrTwice, 12)
	wantFault(t, "x and: [| a | [:a]]", api.ErrTwice, 16)
	wantFault(t, "x and: [| a | x or: [| a |]]", api.ErrTwice, 23)
	wantFault(t, "x to: x do: [:i | x to: x do: [:i]]", api.ErrTwice, 32)
	wantFault(t, "x to: x do: [:i | | i |]", api.ErrTwice, 20)
	wantFault(t, "| a | x to: x do: [:a]", api.ErrTwice, 20)
	wantFault(t, "[| a | a] whileTrue: [| b a | b]. [:b :b]", api.ErrTwice, 39)
}

// P9.2, P9.3: a scope's names are none outside of it.
func TestScopesEnd(t *testing.T) {
	wantFault(t, "[:a | a]. a", api.ErrUnknown, 10)
	wantFault(t, "[[:a | a]. a]", api.ErrUnknown, 11)
	wantFault(t, "x and: [| a | a]. a", api.ErrUnknown, 18)
	wantFault(t, "x ifTrue: [| a | a] ifFalse: [a]", api.ErrUnknown, 30)
	wantFault(t, "[| a | a] whileTrue: [a]", api.ErrUnknown, 22)
	wantFault(t, "x to: x do: [:a | a]. a := 1", api.ErrUnknown, 22)
	wantFault(t, "x to: a do: [:a | a]", api.ErrUnknown, 6)
	wantFault(t, "x foo: [:a | a] bar: [a]", api.ErrUnknown, 22)
	wantBody(t, "[:a | [:b | a]. [:b | b]]. [:b | b]", 0,
		block(1, 1, block(1, 1, temp("a", 1, 0)), block(1, 1, temp("b", 0, 0))), block(1, 1, temp("b", 0, 0)))
	wantAnswer(t, read(t, "[:g | g]. g"), api.Names{Globals: words("g")},
		api.Scoped{Body: []api.Bound{at(0, block(1, 1, at(6, temp("g", 0, 0)))), at(10, global("g", 0))}})
}

// P9.2: a real scope has MaxTemps slots, those of its inlined blocks counted.
func TestMostSlots(t *testing.T) {
	wantBody(t, temporaries("v", 32), 32)
	many := "x and: [" + temporaries("v", 10) + "]. x or: [" + temporaries("v", 10) + "]. x to: x do: [:i | " + temporaries("v", 9) + "]. "
	full := "| a b | " + many
	if got := resolved(t, full+"[:a1 :b1 | "+many+"]"); got.Slots != 32 || got.Body[3].Slots != 32 {
		t.Fatalf("%+v", got)
	}
	for _, source := range []string{
		full + "x or: [| w |]",
		full + "x to: x do: [:w]",
		full + "[x and: [| w |]. x to: x do: [:w]. " + many + "]. x or: [| w |]",
		full + "[[:c :d | " + many + "x and: [| w |]]]",
	} {
		wantFault(t, source, api.ErrLong, strings.LastIndex(source, "w"))
	}
	params := "foo: a foo: b foo: c foo: d foo: e foo: f foo: g foo: h "
	if got := resolved(t, params+temporaries("v", 24)); got.Params != 8 || got.Slots != 32 {
		t.Fatalf("%+v", got)
	}
	wantFault(t, params+temporaries("v", 25), api.ErrLong, len(params+temporaries("v", 24))-2)
	block := "[:a :b :c :d :e :f :g :h | "
	wantFault(t, block+temporaries("v", 25)+"]", api.ErrLong, len(block+temporaries("v", 24))-2)
}

// P9.2: of what is wrong with one name the first in the list is told.
func TestOneNameManyFaults(t *testing.T) {
	full := strings.TrimSuffix(temporaries("v", 32), "| ")
	wantFault(t, full+"v31 |", api.ErrTwice, len(full))
	wantFault(t, full+"x |", api.ErrTwice, len(full))
	wantFault(t, full+"Foo |", api.ErrReserved, len(full))
	wantFault(t, full+"nil |", api.ErrReserved, len(full))
	wantFault(t, full+"w |", api.ErrLong, len(full))
	n := api.Names{Fields: words("Foo nil a"), Classes: words("self b"), Globals: words("super c")}
	for _, name := range words("Foo nil self super") {
		wantRefused(t, read(t, "| "+name+" |"), n, api.ErrReserved, 2)
	}
	wantRefused(t, read(t, "| a |"), n, api.ErrTwice, 2)
	wantAnswer(t, read(t, "| b c |"), n, api.Scoped{Slots: 2})
}

// P9.2: what an assignment's target is refused for.
func TestTargets(t *testing.T) {
	for _, name := range words("self super nil true false Object Point") {
		wantFault(t, "["+name+" := 1]", api.ErrStore, 1)
		wantFault(t, name+" := nope", api.ErrStore, 0)
	}
	wantFault(t, "foo: a [a := 1]", api.ErrStore, 8)
	wantFault(t, "foo: a x and: [a := 1]", api.ErrStore, 15)
	wantFault(t, "[:a | [a := 1]]", api.ErrStore, 7)
	wantFault(t, "[:a :b | b := 1]", api.ErrStore, 9)
	wantFault(t, "x to: x do: [:i | [i := 1]]", api.ErrStore, 19)
	wantFault(t, "x := nope := 1", api.ErrUnknown, 5)
	wantFault(t, "x := y := Point := 1", api.ErrStore, 10)
	wantFault(t, "Nope := 1", api.ErrUnknown, 0)
	wantBody(t, "| a | a := [:b | | c | c := a := x := G := self]", 1,
		assigned(temp("a", 0, 0), block(1, 2, assigned(temp("c", 0, 1), assigned(temp("a", 1, 0), assigned(field("x", 0), assigned(global("G", 0), self())))))))
	wantBody(t, "x to: x do: [:i | | j | j := i]", 2, counted(0, field("x", 0), field("x", 0), body([]int{1}, assigned(temp("j", 0, 1), temp("i", 0, 0)))))
}

// P9.2: the first fault that is met on the walk is told, wherever it stands.
func TestFirstMet(t *testing.T) {
	for _, c := range []struct {
		source string
		code   api.Errno
		place  int
	}{
		{"foo: A | x | nope", api.ErrReserved, 5},
		{"foo: a | x a | nope", api.ErrTwice, 9},
		{"| a | nope. [:a]", api.ErrUnknown, 6},
		{"| a | [:a]. nope", api.ErrTwice, 8},
		{"nope := [:self]", api.ErrUnknown, 0},
		{"x := [:self | nope]. nope", api.ErrReserved, 7},
		{"(nope foo: [:x]) bar: [:self]", api.ErrUnknown, 1},
		{"x foo: [:x] bar: [:self]", api.ErrTwice, 9},
		{"x foo: nope bar: [:self]", api.ErrUnknown, 7},
		{"nope foo; bar: [:x]", api.ErrUnknown, 0},
		{"x foo: [:x]; bar: nope", api.ErrTwice, 9},
		{"x foo; bar: nope baz: [:x]; foo: [:self]", api.ErrUnknown, 12},
		{"x foo; bar: 1; foo: [:self]", api.ErrReserved, 22},
		{"super foo: nope bar: [:x]", api.ErrUnknown, 11},
		{"super foo; bar: nope", api.ErrUnknown, 16},
		{"[:a :a | nope]", api.ErrTwice, 5},
		{"[:a | nope. [:a]]", api.ErrUnknown, 6},
		{"nope ifTrue: [:x]", api.ErrUnknown, 0},
		{"nope ifTrue: [| x |] ifFalse: [nope]", api.ErrUnknown, 0},
		{"y ifTrue: [| x |] ifFalse: [nope]", api.ErrTwice, 13},
		{"y ifTrue: [nope] ifFalse: [| x |]", api.ErrUnknown, 11},
		{"y ifTrue: [y] ifFalse: [| x |]", api.ErrTwice, 26},
		{"[nope] whileTrue: [| x |]", api.ErrUnknown, 1},
		{"[| x |] whileTrue: [nope]", api.ErrTwice, 3},
		{"[y] whileTrue: [nope]", api.ErrUnknown, 16},
		{"nope to: nine do: [:x]", api.ErrUnknown, 0},
		{"y to: nine do: [:x]", api.ErrUnknown, 6},
		{"y to: y do: [:x | nope]", api.ErrTwice, 14},
		{"y to: y do: [:i | nope. self := 1]", api.ErrUnknown, 18},
		{"^nope foo: [:x]", api.ErrUnknown, 1},
		{"x. y. self := nope. nine", api.ErrStore, 6},
	} {
		wantFault(t, c.source, c.code, c.place)
	}
}

// P9.3: the scopes around, then the fields, the globals, the classes; of several in one list the first.
func TestMeanings(t *testing.T) {
	n := api.Names{Fields: words("f a a b"), Globals: words("G b b c a t"), Classes: words("C c c d a b t")}
	for _, c := range []struct {
		name string
		want api.Bound
	}{
		{"f", field("f", 0)}, {"a", field("a", 1)}, {"b", field("b", 3)}, {"G", global("G", 0)}, {"c", global("c", 3)}, {"t", global("t", 5)}, {"C", class("C", 1)}, {"d", class("d", 4)},
	} {
		wantAnswer(t, read(t, c.name), n, api.Scoped{Body: []api.Bound{c.want}})
		if c.want.Kind != api.BoundClass {
			wantAnswer(t, read(t, c.name+" := self"), n, api.Scoped{Body: []api.Bound{assigned(c.want, at(len(c.name)+4, self()))}})
		} else {
			wantRefused(t, read(t, c.name+" := self"), n, api.ErrStore, 0)
		}
	}
	wantAnswer(t, read(t, "| c d t | [c. d. t := c]"), n, api.Scoped{Slots: 3, Body: []api.Bound{at(10, block(0, 0,
		at(11, temp("c", 1, 0)), at(14, temp("d", 1, 1)), at(17, assigned(at(17, temp("t", 1, 2)), at(22, temp("c", 1, 0))))))}})
	wantRefused(t, read(t, "[:d | d := 1]"), n, api.ErrStore, 6)
}

// P9.3: self is self, and nil, true, false are what they are, whatever the lists have.
func TestSelf(t *testing.T) {
	all := words("self super nil true false")
	want := api.Scoped{Body: []api.Bound{self(), at(6, literal(api.BoundNil, "")), at(11, literal(api.BoundTrue, "")), at(17, literal(api.BoundFalse, "")), at(30, superSent("foo"))}}
	for _, n := range []api.Names{{}, {Fields: all}, {Globals: all}, {Classes: all}, {Fields: all, Globals: all, Classes: all}} {
		wantAnswer(t, read(t, "self. nil. true. false. super foo"), n, want)
		for _, name := range all {
			wantRefused(t, read(t, name+" := 1"), n, api.ErrStore, 0)
			wantRefused(t, read(t, "[:"+name+"]"), n, api.ErrReserved, 2)
		}
	}
}

// P9.2: a name that has no place has the place 0; places are answered as they are.
func TestPlacesByHand(t *testing.T) {
	s := api.Source{Names: words("a a")}
	wantRefused(t, s, names(), api.ErrTwice, 0)
	s.Places = []int{7}
	wantRefused(t, s, names(), api.ErrTwice, 0)
	s.Places = []int{7, -3, 9}
	wantRefused(t, s, names(), api.ErrTwice, -3)
	s = api.Source{Body: []api.Node{{Kind: api.NodeBlock, At: 5, Number: 1, Names: words("a Foo"), Places: []int{3}}}}
	wantRefused(t, s, names(), api.ErrReserved, 0)
	s.Body[0].Places = []int{3, math.MinInt}
	wantRefused(t, s, names(), api.ErrReserved, math.MinInt)
	wantRefused(t, api.Source{Body: []api.Node{{Kind: api.NodeName, Text: "a", At: math.MaxInt}}}, names(), api.ErrUnknown, math.MaxInt)
	wantAnswer(t, api.Source{At: 4, Body: []api.Node{{Kind: api.NodeName, Text: "x", At: -9}}}, names(), api.Scoped{Body: []api.Bound{at(-9, field("x", 0))}})
}

// P9.2: what is no tree is refused ahead of its names; a tree whose text is too long is none the less one.
func TestTrees(t *testing.T) {
	nope := api.Node{Kind: api.NodeName, Text: "nope", At: 3}
	for _, s := range []api.Source{
		{Body: []api.Node{nope, {}}}, {Params: 1, Names: words("self")}, {Selector: "a:", Names: nil}, {Selector: "Foo"}, {Names: []string{""}}, {Names: []string{"a b"}},
		{Names: words("self"), Body: []api.Node{{Kind: 14}}}, {Body: []api.Node{{Kind: api.NodeSuper}}}, {Body: []api.Node{{Kind: api.NodeName}}},
		{Body: []api.Node{{Kind: api.NodeName, Text: "nil"}}}, {Body: []api.Node{{Kind: api.NodeSend, Text: "foo"}}}, {Body: []api.Node{{Kind: api.NodeSend, Text: "to:do:", Kids: []api.Node{nope, nope}}}},
		{Body: []api.Node{{Kind: api.NodeSend, Text: "ifTrue:"}}}, {Body: []api.Node{{Kind: api.NodeBlock, Number: 1}}}, {Body: []api.Node{{Kind: api.NodeAssign, Text: "x"}}},
		{Body: []api.Node{{Kind: api.NodeReturn, Kids: []api.Node{nope}}, nope}}, {Body: []api.Node{{Kind: api.NodeConst, Text: "self"}}}, {Body: []api.Node{{Kind: api.NodeMessage, Text: "foo"}}},
		{Body: []api.Node{{Kind: api.NodeInt, Number: 1 << 30}}}, {Names: []string{strings.Repeat("n", 33)}},
	} {
		wantRefused(t, s, names(), api.ErrTree, 0)
	}
	long := api.Source{Body: slices.Repeat([]api.Node{{Kind: api.NodeName, Text: "x"}}, 5000)}
	wantAnswer(t, long, names(), api.Scoped{Body: slices.Repeat([]api.Bound{field("x", 0)}, 5000)})
	long.Body = append(long.Body, nope)
	wantRefused(t, long, names(), api.ErrUnknown, 3)
}

// P9.1: trees as deep as may be are gone through, whether something is refused at their end or not.
func TestDeepTrees(t *testing.T) {
	for _, end := range []string{"x", "nope"} {
		for _, kids := range []func(api.Node) api.Node{
			func(n api.Node) api.Node {
				return api.Node{Kind: api.NodeSend, Text: "foo", Kids: []api.Node{n}}
			},
			func(n api.Node) api.Node {
				return api.Node{Kind: api.NodeSend, Text: "+", Kids: []api.Node{n, {Kind: api.NodeName, Text: "x"}}}
			},
			func(n api.Node) api.Node {
				return api.Node{Kind: api.NodeAssign, Text: "x", Kids: []api.Node{n}}
			},
		} {
			n := api.Node{Kind: api.NodeName, Text: end, At: 8}
			for range 1<<16 - 3 {
				n = kids(n)
			}
			got, fault := scope.Resolve(api.Source{Body: []api.Node{n}}, names())
			if end == "nope" {
				wantRefused(t, api.Source{Body: []api.Node{n}}, names(), api.ErrUnknown, 8)
				continue
			}
			depth := 0
			for b := &got.Body[0]; len(b.Kids) > 0; b = &b.Kids[len(b.Kids)-1] {
				if b.Kids[0].Kind == api.BoundSend {
					b = &api.Bound{Kids: b.Kids[:1]}
				}
				depth++
			}
			if fault != (api.Fault{}) || depth != 1<<16-3 {
				t.Fatalf("%+v, %d deep", fault, depth)
			}
		}
	}
}

// P9.1: many names are told apart as few are, and soon.
func TestManyNames(t *testing.T) {
	var n api.Names
	var s api.Source
	for i := range 60000 {
		name := fmt.Sprint("name", i)
		switch i % 3 {
		case 0:
			n.Fields = append(n.Fields, name)
		case 1:
			n.Globals = append(n.Globals, name)
		case 2:
			n.Classes = append(n.Classes, name)
		}
		s.Body = append(s.Body, api.Node{Kind: api.NodeName, Text: name})
	}
	got, fault := scope.Resolve(s, n)
	if fault != (api.Fault{}) || len(got.Body) != 60000 {
		t.Fatalf("%+v", fault)
	}
	for i, b := range got.Body {
		want := []api.Bound{field(b.Text, i/3), global(b.Text, i/3), class(b.Text, i/3+1)}[i%3]
		if b.Text != s.Body[i].Text || !reflect.DeepEqual(b, want) {
			t.Fatalf("%d: %+v, want %+v", i, b, want)
		}
	}
	wantRefused(t, api.Source{Names: []string{"a", "name59997"}, Places: []int{3, 5}}, n, api.ErrTwice, 5)
}

// everything is a source in which all kinds of nodes are.
const everything = "foo: a | t u | t := [:b :c | | d e | #(1 #(2 'x') #y nil) foo: b; bar: d + e; baz]. " +
	"a ifTrue: [| f g | f] ifFalse: [| h | G]. [| i | x] whileTrue: [| j k | Point]. 1 to: u do: [:l | | m n | m foo: n bar: l]. super foo: t bar: y; baz. ^super baz: 'text'"

// P9.1: nil and empty lists mean the same.
func TestEmptyLists(t *testing.T) {
	var full func(list []api.Node) []api.Node
	full = func(list []api.Node) []api.Node {
		out := append([]api.Node{}, list...)
		for i, n := range out {
			out[i].Names, out[i].Places, out[i].Kids = append([]string{}, n.Names...), append([]int{}, n.Places...), full(n.Kids)
		}
		return out
	}
	for _, source := range []string{"", "self", "[]", "#()", "self foo", everything} {
		s := read(t, source)
		n := names()
		if source != everything {
			n = api.Names{}
		}
		want, fault := scope.Resolve(s, n)
		if fault != (api.Fault{}) {
			t.Fatalf("%q: %+v", source, fault)
		}
		s.Names, s.Places, s.Body = append([]string{}, s.Names...), append([]int{}, s.Places...), full(s.Body)
		n.Fields, n.Classes, n.Globals = append([]string{}, n.Fields...), append([]string{}, n.Classes...), append([]string{}, n.Globals...)
		wantAnswer(t, s, n, want)
	}
}

// span is the memory of a list, spare room too, or of a text.
type span struct{ from, to uintptr }

func spanOf[T any](list []T) span {
	if cap(list) == 0 {
		return span{}
	}
	from := uintptr(unsafe.Pointer(unsafe.SliceData(list)))
	return span{from, from + uintptr(cap(list))*unsafe.Sizeof(list[:1][0])}
}

func spanOfText(s string) span {
	from := uintptr(unsafe.Pointer(unsafe.StringData(s)))
	return span{from, from + uintptr(len(s))}
}

func spans(s api.Scoped) []span {
	out := []span{spanOf(s.Body)}
	var nodes func([]api.Bound)
	nodes = func(list []api.Bound) {
		for _, b := range list {
			out = append(out, spanOf(b.Clear), spanOf(b.Kids))
			nodes(b.Kids)
		}
	}
	nodes(s.Body)
	return slices.DeleteFunc(out, func(x span) bool { return x == span{} })
}

// P9.1: each list of an answer is memory of its own.
func TestNewMemory(t *testing.T) {
	list := append(spans(resolved(t, everything)), spans(resolved(t, everything))...)
	slices.SortFunc(list, func(a, b span) int { return int(a.from) - int(b.from) })
	for i := range list[1:] {
		if list[i].to > list[i+1].from {
			t.Fatalf("two lists share memory: %v, %v", list[i], list[i+1])
		}
	}
}

// P9.1: no text of an answer is a piece of what was handed in.
func TestTextsAreCopies(t *testing.T) {
	s, n := read(t, everything), names()
	given := []span{spanOfText(s.Selector)}
	for _, name := range slices.Concat(s.Names, n.Fields, n.Classes, n.Globals) {
		given = append(given, spanOfText(name))
	}
	var nodes func([]api.Node)
	nodes = func(list []api.Node) {
		for _, n := range list {
			given = append(given, spanOfText(n.Text))
			for _, name := range n.Names {
				given = append(given, spanOfText(name))
			}
			nodes(n.Kids)
		}
	}
	nodes(s.Body)
	got, _ := scope.Resolve(s, n)
	check := func(text string) {
		at := spanOfText(text)
		if slices.ContainsFunc(given, func(x span) bool { return at.from < x.to && x.from < at.to }) {
			t.Fatalf("%q is what was handed in", text)
		}
	}
	check(got.Selector)
	copied(got.Body, func(b *api.Bound) { check(b.Text) })
}

func wide[T any](list []T, spare T) []T {
	return append(slices.Clone(list), spare, spare, spare)[:len(list)]
}

// roomy is nodes whose lists have spare room, with something in it.
func roomy(nodes []api.Node) []api.Node {
	out := slices.Clone(nodes)
	for i, n := range out {
		out[i].Names, out[i].Places, out[i].Kids = wide(n.Names, "spare"), wide(n.Places, 77), roomy(n.Kids)
	}
	return wide(out, api.Node{Kind: api.NodeName, Text: "spare"})
}

// spread is nodes with the spare room of their lists told.
func spread(nodes []api.Node) []api.Node {
	out := slices.Clone(nodes[:cap(nodes)])
	for i, n := range out {
		out[i].Names, out[i].Places, out[i].Kids = slices.Clone(n.Names[:cap(n.Names)]), slices.Clone(n.Places[:cap(n.Places)]), spread(n.Kids)
	}
	return out
}

// P9.1: what is handed in is left as it is, spare room too.
func TestLeftAsItIs(t *testing.T) {
	for _, source := range []string{everything, "foo", "x := [:a | a := nope]", "[:a | a and: [| b | b]]"} {
		s, n := read(t, source), names()
		s.Names, s.Places, s.Body = wide(s.Names, "spare"), wide(s.Places, 77), roomy(s.Body)
		n.Fields, n.Classes, n.Globals = wide(n.Fields, "spare"), wide(n.Classes, "spare"), wide(n.Globals, "spare")
		all := func() [][]string {
			return [][]string{slices.Clone(s.Names[:cap(s.Names)]), slices.Clone(n.Fields[:cap(n.Fields)]), slices.Clone(n.Classes[:cap(n.Classes)]), slices.Clone(n.Globals[:cap(n.Globals)])}
		}
		texts, places, body := all(), slices.Clone(s.Places[:cap(s.Places)]), spread(s.Body)
		first, fault := scope.Resolve(s, n)
		again, faultAgain := scope.Resolve(s, n)
		if fault != faultAgain || !same(first, again) {
			t.Fatalf("%q answers %+v, %+v, then %+v, %+v", source, first, fault, again, faultAgain)
		}
		if !reflect.DeepEqual(texts, all()) || !slices.Equal(places, s.Places[:cap(s.Places)]) || !reflect.DeepEqual(body, spread(s.Body)) {
			t.Fatalf("%q: what was handed in is changed", source)
		}
	}
}
