package parse_test

import (
	"fmt"
	"math"
	"reflect"
	"slices"
	"strings"
	"testing"
	"unsafe"

	"kiln/api"
	"kiln/lex"
	"kiln/parse"
)

func integer(n int) api.Node       { return api.Node{Kind: api.NodeInt, Number: n} }
func text(s string) api.Node       { return api.Node{Kind: api.NodeText, Text: s} }
func symbol(s string) api.Node     { return api.Node{Kind: api.NodeSymbol, Text: s} }
func constant(s string) api.Node   { return api.Node{Kind: api.NodeConst, Text: s} }
func named(s string) api.Node      { return api.Node{Kind: api.NodeName, Text: s} }
func super() api.Node              { return api.Node{Kind: api.NodeSuper} }
func returned(n api.Node) api.Node { return api.Node{Kind: api.NodeReturn, Kids: []api.Node{n}} }

func array(kids ...api.Node) api.Node { return api.Node{Kind: api.NodeArray, Kids: kids} }

func assigned(name string, value api.Node) api.Node {
	return api.Node{Kind: api.NodeAssign, Text: name, Kids: []api.Node{value}}
}

// sent is a send: the receiver, then the arguments.
func sent(selector string, kids ...api.Node) api.Node {
	return api.Node{Kind: api.NodeSend, Text: selector, Kids: kids}
}

func message(selector string, kids ...api.Node) api.Node {
	return api.Node{Kind: api.NodeMessage, Text: selector, Kids: kids}
}

// cascaded is a cascade: the receiver, then the messages.
func cascaded(kids ...api.Node) api.Node { return api.Node{Kind: api.NodeCascade, Kids: kids} }

func block(names []string, params int, kids ...api.Node) api.Node {
	return api.Node{Kind: api.NodeBlock, Names: names, Number: params, Kids: kids}
}

func doit(body ...api.Node) api.Source { return api.Source{Body: body} }

func words(s string) []string { return strings.Fields(s) }

// at is a node with a place.
func at(place int, n api.Node) api.Node {
	n.At = place
	return n
}

// copied is a list of nodes as memory of its own; change is done to each node on the way.
func copied(nodes []api.Node, change func(*api.Node)) []api.Node {
	var out []api.Node
	for _, n := range nodes {
		n.Names = append([]string(nil), n.Names...)
		n.Places = append([]int(nil), n.Places...)
		n.Kids = copied(n.Kids, change)
		change(&n)
		out = append(out, n)
	}
	return out
}

// copiedSource is a tree as memory of its own, its lists nil where they are empty.
func copiedSource(s api.Source, change func(*api.Node)) api.Source {
	s.Names = append([]string(nil), s.Names...)
	s.Places = append([]int(nil), s.Places...)
	s.Body = copied(s.Body, change)
	return s
}

func unchanged(*api.Node) {}

// same tells whether two trees are one, places and all.
func same(a, b api.Source) bool {
	return reflect.DeepEqual(copiedSource(a, unchanged), copiedSource(b, unchanged))
}

func placeless(s api.Source) api.Source {
	s = copiedSource(s, func(n *api.Node) { n.At, n.Places = 0, nil })
	s.At, s.Places = 0, nil
	return s
}

// alike tells whether two trees are one, but for places.
func alike(a, b api.Source) bool { return reflect.DeepEqual(placeless(a), placeless(b)) }

// brief is a beginning of a tree, for a report.
func brief(s api.Source) string { return fmt.Sprintf("%.600s", fmt.Sprintf("%+v", s)) }

func asDoit(t *testing.T, source string) api.Source {
	t.Helper()
	s, f := parse.Doit(source)
	if f != (api.Fault{}) {
		t.Fatalf("Doit(%q): %+v", source, f)
	}
	return s
}

func asMethod(t *testing.T, source string) api.Source {
	t.Helper()
	s, f := parse.Method(source)
	if f != (api.Fault{}) {
		t.Fatalf("Method(%q): %+v", source, f)
	}
	return s
}

func wantDoit(t *testing.T, source string, body ...api.Node) {
	t.Helper()
	if got := asDoit(t, source); !alike(got, doit(body...)) {
		t.Fatalf("Doit(%q) = %+v, want %+v", source, got, body)
	}
}

// wantPlaced holds a tree with its places against this.
func wantPlaced(t *testing.T, got, want api.Source) {
	t.Helper()
	if !same(got, want) {
		t.Fatalf("got %+v, want %+v", got, want)
	}
}

func wantText(t *testing.T, s api.Source, want string) {
	t.Helper()
	if got, e := parse.Print(s); got != want || e != api.OK {
		t.Fatalf("Print(%s) = %q, %d, want %q", brief(s), got, e, want)
	}
}

// wantRead holds the text of a source's tree against this, and has that read again.
func wantRead(t *testing.T, source, want string) {
	t.Helper()
	s := asDoit(t, source)
	wantText(t, s, want)
	if again := asDoit(t, want); !alike(again, s) {
		t.Fatalf("%q is read as %+v, %q as %+v", source, s, want, again)
	}
}

func wantDoitFault(t *testing.T, source string, code api.Errno, place int) {
	t.Helper()
	want := api.Fault{Code: code, At: place}
	if s, f := parse.Doit(source); f != want || !reflect.DeepEqual(s, api.Source{}) {
		t.Fatalf("Doit(%.60q) = %+v, %+v, want %+v", source, s, f, want)
	}
}

func wantMethodFault(t *testing.T, source string, code api.Errno, place int) {
	t.Helper()
	want := api.Fault{Code: code, At: place}
	if s, f := parse.Method(source); f != want || !reflect.DeepEqual(s, api.Source{}) {
		t.Fatalf("Method(%.60q) = %+v, %+v, want %+v", source, s, f, want)
	}
}

func wantRefused(t *testing.T, s api.Source, want api.Errno) {
	t.Helper()
	if got, e := parse.Print(s); got != "" || e != want {
		t.Fatalf("Print(%s) = %.60q, %d, want %d", brief(s), got, e, want)
	}
}

func wantNoTree(t *testing.T, body ...api.Node) {
	t.Helper()
	wantRefused(t, doit(body...), api.ErrTree)
}

// The chapter's examples, in their order.
func TestExamples(t *testing.T) {
	x, y, a, b, c, d, n := named("x"), named("y"), named("a"), named("b"), named("c"), named("d"), named("t")

	wantPlaced(t, asMethod(t, "foo"), api.Source{Selector: "foo"})
	wantPlaced(t, asMethod(t, "at: x put: y | t | t := x. ^t foo: y + 1; bar"), api.Source{
		Selector: "at:put:", Params: 2, Names: words("x y t"), Places: []int{4, 11, 15},
		Body: []api.Node{
			at(19, assigned("t", at(24, x))),
			at(27, returned(at(40, cascaded(at(28, n),
				at(30, message("foo:", at(37, sent("+", at(35, y), at(39, integer(1)))))),
				at(42, message("bar")))))),
		}})

	tree := sent("baz:", sent("*", sent("+", sent("foo", a), sent("bar", b)), c), d)
	wantDoit(t, "a foo + b bar * c baz: d", tree)
	wantText(t, doit(tree), "a foo + b bar * c baz: d")
	wantDoit(t, "(a foo) + (b bar) * c baz: d", tree)
	wantDoit(t, "(a foo) + (b bar)", tree.Kids[0].Kids[0])

	wantDoit(t, "x := y := 3", assigned("x", assigned("y", integer(3))))
	wantRead(t, "(x := 3) + 1", "(x := 3) + 1")
	wantRead(t, "3 + (x := 1)", "3 + (x := 1)")
	wantDoitFault(t, "- 3", api.ErrSyntax, 0)
	wantDoit(t, "-3 abs", sent("abs", integer(-3)))
	wantDoit(t, "3 -4", sent("-", integer(3), integer(4)))
	wantDoit(t, "3 - -4", sent("-", integer(3), integer(-4)))
	wantDoitFault(t, "1073741824", api.ErrSyntax, 0)
	wantDoit(t, "-1073741824", integer(-1<<30))

	wantDoit(t, "a b; c: 1; + 2", cascaded(a, message("b"), message("c:", integer(1)), message("+", integer(2))))
	wantDoitFault(t, "a; b", api.ErrSyntax, 1)
	wantDoitFault(t, "(a b); c", api.ErrSyntax, 5)
	wantDoit(t, "a b c; d", cascaded(sent("b", a), message("c"), message("d")))

	wantDoitFault(t, "super", api.ErrSyntax, 0)
	wantDoitFault(t, "a + super", api.ErrSyntax, 4)
	wantDoitFault(t, "x := super", api.ErrSyntax, 5)
	wantDoit(t, "super foo", sent("foo", super()))
	wantDoit(t, "super + 1", sent("+", super(), integer(1)))
	wantDoit(t, "super a: 1; b", cascaded(super(), message("a:", integer(1)), message("b")))
	wantDoitFault(t, "a super", api.ErrSyntax, 2)

	wantDoit(t, "[]", block(nil, 0))
	wantDoit(t, "[:a]", block(words("a"), 1))
	wantRead(t, "[:a]", "[:a |]")
	wantDoit(t, "[:a :b | | t | t := a. ^b]", block(words("a b t"), 2, assigned("t", a), returned(b)))
	wantDoit(t, "[| t |]", block(words("t"), 0))
	wantDoitFault(t, "[:a b]", api.ErrSyntax, 4)
	wantDoitFault(t, "[: | ]", api.ErrSyntax, 3)
	wantDoitFault(t, "[ | t ]", api.ErrSyntax, 6)

	wantDoit(t, "#(1 -2 'a' #b #(true) nil)", array(integer(1), integer(-2), text("a"), symbol("b"), array(constant("true")), constant("nil")))
	wantDoitFault(t, "#(a)", api.ErrSyntax, 2)
	wantDoitFault(t, "#(1 + 2)", api.ErrSyntax, 4)

	wantDoit(t, "a. b.", a, b)
	wantDoit(t, "")
	wantDoitFault(t, "a.. b", api.ErrSyntax, 2)
	wantDoitFault(t, "^a. b", api.ErrSyntax, 4)
	wantDoit(t, "^a.", returned(a))
	wantDoitFault(t, ".", api.ErrSyntax, 0)
	for _, source := range []string{"", "self", "Foo", "At: x"} {
		wantMethodFault(t, source, api.ErrSyntax, 0)
	}
	wantMethodFault(t, "foo: 3", api.ErrSyntax, 5)

	wantRead(t, nested("(", 24, "3", ")"), "3")
	wantDoitFault(t, nested("(", 25, "3", ")"), api.ErrDeep, 24)
	wantDoitFault(t, strings.Repeat("n", 33), api.ErrLong, 0)
	wantDoitFault(t, "'"+strings.Repeat("n", 257)+"'", api.ErrLong, 0)
	wantDoitFault(t, "a a: 1 a: 2 a: 3 a: 4 a: 5 a: 6 a: 7 a: 8 a: 9", api.ErrLong, 42)
	wantDoitFault(t, "#("+strings.Repeat("1 ", 33)+")", api.ErrLong, 66)
	wantDoitFault(t, strings.Repeat("(", 25)+"]", api.ErrSyntax, 25)

	wantNoTree(t, named("super"))
	wantNoTree(t, sent("+", a, b, c))
	wantNoTree(t, returned(a), b)
	wantNoTree(t, cascaded(a, message("b")))
	wantNoTree(t, integer(1<<30))
	wantRefused(t, api.Source{Selector: "x:"}, api.ErrTree)
	wantNoTree(t, api.Node{})
	wantText(t, api.Source{}, "")
}

// nested is the inner text within so many brackets.
func nested(open string, count int, inner, closing string) string {
	return strings.Repeat(open, count) + inner + strings.Repeat(closing, count)
}

// P8.2: what lex refuses comes first, whatever the syntax.
func TestTokensFirst(t *testing.T) {
	wantDoitFault(t, ") 'b", api.ErrToken, 2)
	wantMethodFault(t, "3 $", api.ErrToken, 2)
	wantDoitFault(t, "1073741825", api.ErrToken, 0)
	wantDoitFault(t, strings.Repeat(")", 4097), api.ErrLong, 4096)
	wantMethodFault(t, strings.Repeat(" ", 4097), api.ErrLong, 4096)
	wantMethodFault(t, strings.Repeat(" ", 4096), api.ErrSyntax, 4096)
	wantDoit(t, strings.Repeat(" ", 4096))
}

// P8.2: the heads of methods, and where their names stand.
func TestHeads(t *testing.T) {
	wantPlaced(t, asMethod(t, " \"c\" foo"), api.Source{Selector: "foo", At: 5})
	wantPlaced(t, asMethod(t, "- x"), api.Source{Selector: "-", Params: 1, Names: words("x"), Places: []int{2}})
	wantPlaced(t, asMethod(t, " <= Y | super nil |"), api.Source{Selector: "<=", At: 1, Params: 1, Names: words("Y super nil"), Places: []int{4, 8, 14}})
	wantPlaced(t, asMethod(t, "self: self nil: true x"), api.Source{
		Selector: "self:nil:", Params: 2, Names: words("self true"), Places: []int{6, 16}, Body: []api.Node{at(21, named("x"))}})
	wantPlaced(t, asMethod(t, "foo -3"), api.Source{Selector: "foo", Body: []api.Node{at(4, integer(-3))}})
	wantPlaced(t, asMethod(t, "foo bar"), api.Source{Selector: "foo", Body: []api.Node{at(4, named("bar"))}})
	wantPlaced(t, asMethod(t, "at: x put"), api.Source{Selector: "at:", Params: 1, Names: words("x"), Places: []int{4}, Body: []api.Node{at(6, named("put"))}})
	for source, place := range map[string]int{
		"nil": 0, "super foo": 0, "| a |": 0, "(": 0, "#a": 0, "'a'": 0, "^a": 0, "3": 0, "a:": 2, "a: b:": 3, "-": 1, "-3": 1, "+ +": 2, "+ a:": 2,
		"foo - 3": 4, "at: x Put: y": 6, "at: x put: 3": 11, "foo: foo: x": 5, "foo := 3": 4, "foo | a": 7, "foo ]": 4, "foo: x ; y": 7, "foo a foo: 3 )": 13,
		"foo.": 3, "+ x | 3 |": 6,
	} {
		wantMethodFault(t, source, api.ErrSyntax, place)
	}
}

// P8.2: where each kind of node has its place.
func TestPlaces(t *testing.T) {
	a, b := named("a"), named("b")
	wantPlaced(t, asDoit(t, " -3"), doit(at(1, integer(-3))))
	wantPlaced(t, asDoit(t, "('x')"), doit(at(1, text("x"))))
	wantPlaced(t, asDoit(t, " #at:put: "), doit(at(1, symbol("at:put:"))))
	wantPlaced(t, asDoit(t, " #( -1 true)"), doit(at(1, array(at(4, integer(-1)), at(7, constant("true"))))))
	wantPlaced(t, asDoit(t, "nil. self"), doit(at(0, constant("nil")), at(5, named("self"))))
	wantPlaced(t, asDoit(t, "(a)b"), doit(at(3, sent("b", at(1, a)))))
	wantPlaced(t, asDoit(t, "a at: b put: a"), doit(at(2, sent("at:put:", at(0, a), at(6, b), at(13, a)))))
	wantPlaced(t, asDoit(t, "super + (b)"), doit(at(6, sent("+", at(0, super()), at(9, b)))))
	wantPlaced(t, asDoit(t, "a + b + a ; b"), doit(at(10, cascaded(at(2, sent("+", at(0, a), at(4, b))), at(6, message("+", at(8, a))), at(12, message("b"))))))
	wantPlaced(t, asDoit(t, " ( a := b )"), doit(at(3, assigned("a", at(8, b)))))
	block := at(0, block(words("a t"), 1, at(13, returned(at(15, b)))))
	block.Places = []int{4, 9}
	wantPlaced(t, asDoit(t, "[ : a || t | ^ b]"), doit(block))
	wantPlaced(t, asDoit(t, "| a  b |"), api.Source{Names: words("a b"), Places: []int{2, 5}})
}

// P8.2: super stands where a message to it follows, and nowhere else.
func TestSuper(t *testing.T) {
	for _, source := range []string{
		"super a", "super + a", "super a: b", "super a b", "a + super b", "a + super b + c", "a b: super c", "a b: super + c", "a b: super c + d e: super + f",
		"(super a)", "[super a]", "^super a", "x := super a: b", "super a; b", "super + a; b", "super a: b; c", "a b; + super c", "a b; c: super + d",
		"super - 3", "super -3", "super := 3", "x := super := 3", "[:super]", "| super |", "super self: 3",
	} {
		asDoit(t, source)
	}
	for source, place := range map[string]int{
		"super.": 0, "(super)": 1, "(super) a": 1, "[super]": 1, "^super": 1, "super; a": 0, "super 3": 0, "super )": 0, "super Foo": 0, "super Foo: 1": 0,
		"super self": 0, "super nil": 0, "super super a": 0, "super (a)": 0, "super [a]": 0, "super ^a": 0, "super | a": 0, "super : a": 0, "super #a": 0,
		"a + super + b": 4, "a + super b: c": 4, "a b: super": 5, "a b: super c: d": 5, "a b: c + super d: e": 9, "a b; + super + c": 7,
		"a b; c: super d: e": 8, "a b; super": 5, "#(super)": 2, "#(super a)": 2, "x := super": 5, "a super a": 2, "super + super": 8, "super a: super": 9,
		"super +": 7, "super a: )": 9, "super a; )": 9,
	} {
		wantDoitFault(t, source, api.ErrSyntax, place)
	}
}

// P8.2: a - is of a number just where it stands right ahead of one and begins a primary or an element.
func TestMinus(t *testing.T) {
	wantDoit(t, "3--4", sent("-", integer(3), integer(-4)))
	wantDoit(t, "a-4", sent("-", named("a"), integer(4)))
	wantDoit(t, "a - 4", sent("-", named("a"), integer(4)))
	wantDoit(t, "a b: -4 - -5", sent("b:", named("a"), sent("-", integer(-4), integer(-5))))
	wantDoit(t, "-0", integer(0))
	wantDoit(t, "-007", integer(-7))
	wantDoit(t, "1073741823", integer(1<<30-1))
	wantDoit(t, "#(-1073741824 1073741823)", array(integer(-1<<30), integer(1<<30-1)))
	wantDoit(t, "a -1. -1", sent("-", named("a"), integer(1)), integer(-1))
	for source, place := range map[string]int{
		"-": 0, "--3": 0, "- -3": 0, "-\"c\"3": 0, "-a": 0, "-(3)": 0, "a + -": 4, "a - - 3": 4, "a b: - 3": 5, "(- 3)": 1, "[-a]": 1, "^- 3": 1, "x := -": 5,
		"#(-)": 2, "#(- 3)": 2, "#(-a)": 2, "#(1 --3)": 4, "+3": 0, "#(+3)": 2, "a +- 3": 3, "3 - 1073741824": 4, "3 -1073741824": 3, "#(1073741824)": 2,
		"a 1073741824": 2, "3 4": 2, "3 -4 5": 5, "a - 3 - - 4": 8,
	} {
		wantDoitFault(t, source, api.ErrSyntax, place)
	}
}

// P8.2: the first token that may not stand, of each part of the grammar.
func TestSyntax(t *testing.T) {
	for source, place := range map[string]int{
		"a Foo": 2, "a self": 2, "a nil": 2, "a Foo: b": 2, "a b: c D: e": 7, "a: b": 0, "a 'b'": 2, "a #b": 2, "a #(": 2, "a (b)": 2, "a [b]": 2, "a | b": 2, "a : b": 2,
		"a + ": 4, "a + )": 4, "a b:": 4, "a b: c:": 5, "a b: . c": 5, "a b: c d: ": 10, "a + b := 3": 6, "(a) := 3": 4, "a b := 3": 4, "3 := 4": 2, ":= 3": 0,
		"a := ": 5, "a := ^b": 5, "a := b :=": 9, "a := .": 5, "a := b; c": 6,
		";": 0, "3; a": 1, "[a b]; c": 5, "a b;": 4, "a b; ;": 5, "a b; c d": 7, "a b; Foo": 5, "a b; self": 5, "a b; 3": 5, "a b; + c + d": 9, "a b; c: d e; f: g h: i j: k; l; (": 32,
		"a b; + c; d + e": 12, "a := b c; d := 3": 12, "(a := b c); d": 10, "(a b; c); d": 8, "#(1); a": 4,
		"()": 1, "(": 1, "(a": 2, "(a]": 2, "(a. b)": 2, "(^a)": 1, "(.)": 1, ")": 0, "(a))": 3, "]": 0, "[a]]": 3,
		"[": 1, "[a": 2, "[a)": 2, "[:": 2, "[:]": 2, "[: 3]": 3, "[:a": 3, "[:a.": 3, "[:a:": 2, "[:a :b c]": 7, "[:a | b :c]": 8, "[a :b]": 3, "[:a := b]": 4, "[:a ^b]": 4,
		"[:a | |]": 7, "[:a||]": 5, "[|": 2, "[|]": 2, "[| a b": 6, "[:a | | b]": 9, "[| 3 |]": 3, "[||| a]": 3, "[.]": 1, "[a..]": 3, "[^a. b]": 5, "[^a b. ^c]": 7, "[^]": 2, "[^^a]": 2,
		"#(": 2, "#(1": 3, "#(]": 2, "#(1 2": 5, "#((1))": 2, "#([])": 2, "#(self)": 2, "#(Foo)": 2, "#(nil: )": 2, "#(1. 2)": 3, "#(#(1 a))": 6, "#(:a)": 2, "#(^)": 2,
		"|": 1, "| a": 3, "| a. |": 3, "| a: |": 2, "| a | | b |": 6, "| 3 |": 2, "a. | b |": 3, "|| ||": 3,
		"^": 1, "^.": 1, "^^a": 1, "^a. .": 4, "^a. ^b": 4, "^a.. b": 3, "a ^b": 2, "^a b. c": 6, "a. .": 3, "..": 0,
	} {
		wantDoitFault(t, source, api.ErrSyntax, place)
	}
}

// P8.2: how messages bind.
func TestMessages(t *testing.T) {
	a, b, c, d := named("a"), named("b"), named("c"), named("d")
	wantDoit(t, "a b c", sent("c", sent("b", a)))
	wantDoit(t, "a + b + c", sent("+", sent("+", a, b), c))
	wantDoit(t, "a + b c", sent("+", a, sent("c", b)))
	wantDoit(t, "a b: c d", sent("b:", a, sent("d", c)))
	wantDoit(t, "a b: c + d e: d", sent("b:e:", a, sent("+", c, d), d))
	wantDoit(t, "a + b c: d", sent("c:", sent("+", a, b), d))
	wantDoit(t, "(a b: c) d: d", sent("d:", sent("b:", a, c), d))
	wantDoit(t, "a b: (c b: d) d: (d := a)", sent("b:d:", a, sent("b:", c, d), assigned("d", a)))
	wantDoit(t, "a := b + c; d", assigned("a", cascaded(b, message("+", c), message("d"))))
	wantDoit(t, "a b: c + d; + d c; d: a b: b", cascaded(a, message("b:", sent("+", c, d)), message("+", sent("c", d)), message("d:b:", a, b)))
	wantDoit(t, "(a b; c) d; + d", cascaded(cascaded(a, message("b"), message("c")), message("d"), message("+", d)))
	wantDoit(t, "[a] b: [:c | c] ; d", cascaded(block(nil, 0, a), message("b:", block(words("c"), 1, c)), message("d")))
	wantDoit(t, "nil := Foo := true foo", assigned("nil", assigned("Foo", sent("foo", constant("true")))))
	wantDoit(t, "((a))b", sent("b", a))
	wantDoit(t, "nil. false. self. Foo. selfish", constant("nil"), constant("false"), named("self"), named("Foo"), named("selfish"))
}

// P8.2: blocks, temporaries and statements in all their forms.
func TestBodies(t *testing.T) {
	a, b := named("a"), named("b")
	wantDoit(t, "[:a|]", block(words("a"), 1))
	wantDoit(t, "[:a|||b]", block(words("a"), 1, b))
	wantDoit(t, "[||]", block(nil, 0))
	wantDoit(t, "[||^a.]", block(nil, 0, returned(a)))
	wantDoit(t, "[a. b.]", block(nil, 0, a, b))
	wantDoit(t, "[:a | [:a :b | a]]. ^[^b]", block(words("a"), 1, block(words("a b"), 2, a)), returned(block(nil, 0, returned(b))))
	wantDoit(t, "||")
	wantDoit(t, "|| a", a)
	wantDoit(t, "a . b . ", a, b)
	wantDoit(t, "#()", array())
	wantDoit(t, "#(#() #(#()) #+ #a:b: '''' false)", array(array(), array(array()), symbol("+"), symbol("a:b:"), text("'"), constant("false")))
	if s := asDoit(t, "| a b a | a"); !slices.Equal(s.Names, words("a b a")) || s.Params != 0 || len(s.Body) != 1 {
		t.Fatalf("temporaries of a doit: %+v", s)
	}
}

// P8.2: what passes a bound, at its edge and one past it.
func TestBounds(t *testing.T) {
	name, word := strings.Repeat("n", 32), strings.Repeat("w", 31)
	for _, source := range []string{
		name, name + " := " + name, "a " + name, "a " + name + ": b", "[:" + name + "]", "| " + name + " |", "#" + strings.Repeat("s", 96), "'" + strings.Repeat("t", 256) + "'",
		"'" + strings.Repeat("''", 256) + "'", "#" + strings.Repeat("s:", 48), "a " + word + ": 1 " + word + ": 2 " + word + ": 3",
		"a a: 1 a: 2 a: 3 a: 4 a: 5 a: 6 a: 7 a: 8", "[:a :b :c :d :e :f :g :h | x]", "#(" + strings.Repeat("1 ", 32) + ")", "#(" + strings.Repeat("#() ", 32) + ")",
		nested("[", 24, "", "]"), nested("#(", 24, "", ")"), "([#()])." + nested("(", 24, "a", ")"), nested("((", 12, "a", "))"),
		"| " + strings.Repeat("t ", 1000) + "|", strings.Repeat("[].", 1000),
	} {
		asDoit(t, source)
	}
	for source, place := range map[string]int{
		"a := " + name + "n": 5, name + "n := a": 0, "a " + name + "n": 2, "a " + name + "n: b": 2, "[:" + name + "n]": 2, "| " + name + "n |": 2, "#" + strings.Repeat("s", 97): 0,
		"a. '" + strings.Repeat("t", 257) + "'": 3, "'" + strings.Repeat("''", 257) + "'": 0, "#" + strings.Repeat("s:", 48) + "s:": 0,
		"a " + word + ": 1 " + word + ": 2 " + word + "w: 3":          72,
		"a b; " + word + ": 1 " + word + ": 2 " + word + "w: 3":       75,
		"a " + word + ": 1 " + word + ": 2 " + word + ": 3 x: 4 y: 5": 107,
		"a a: 1 a: 2 a: 3 a: 4 a: 5 a: 6 a: 7 a: 8 a: 9 a: 10":        42,
		"a b; a: 1 a: 2 a: 3 a: 4 a: 5 a: 6 a: 7 a: 8 a: 9":           45,
		"[:a :b :c :d :e :f :g :h :i :j | x]":                         26,
		"[ : a : b : c : d : e : f : g : h : i ]":                     36,
		"#(" + strings.Repeat("1 ", 32) + "-1 2)":                     66,
		"#(" + strings.Repeat("1 ", 32) + "#(1))":                     66,
		"#(#(" + strings.Repeat("1 ", 33) + "))":                      68,
	} {
		wantDoitFault(t, source, api.ErrLong, place)
	}
	for source, place := range map[string]int{
		nested("[", 25, "", "]"): 24, nested("#(", 25, "", ")"): 48, nested("((", 13, "a", "))"): 24, nested("(", 24, "[]", ")"): 24, nested("[", 24, "#()", "]"): 24,
		nested("(", 26, "a", ")"): 24, nested("(", 24, "a", ")") + "b: " + nested("(", 25, "a", ")"): 49 + 3 + 24,
	} {
		wantDoitFault(t, source, api.ErrDeep, place)
	}
	head := "a: a a: b a: c a: d a: e a: f a: g a: h "
	asMethod(t, head)
	wantMethodFault(t, head+"a: i", api.ErrLong, 40)
	asMethod(t, word+": a "+word+": b "+word+": c")
	wantMethodFault(t, word+": a "+word+": b "+word+"w: c", api.ErrLong, 70)
	wantMethodFault(t, name+"n", api.ErrLong, 0)
	wantMethodFault(t, "+ "+name+"n", api.ErrLong, 2)
}

// P8.2: of what passes a bound the first by its place, and no bound ahead of the syntax.
func TestBoundsInOrder(t *testing.T) {
	long := strings.Repeat("n", 33)
	deep := nested("(", 25, "a", ")")
	wantDoitFault(t, deep+" "+long, api.ErrDeep, 24)
	wantDoitFault(t, long+" + "+deep, api.ErrLong, 0)
	wantDoitFault(t, "a a: 1 a: 2 a: 3 a: 4 a: 5 a: 6 a: 7 a: 8 a: "+long, api.ErrLong, 42)
	wantDoitFault(t, "a a: 1 a: "+long+" a: 3 a: 4 a: 5 a: 6 a: 7 a: 8 a: 9", api.ErrLong, 10)
	wantDoitFault(t, "a a: 1 a: 2 a: 3 a: 4 a: 5 a: 6 a: 7 a: 8 a: "+deep, api.ErrLong, 42)
	wantDoitFault(t, "#("+strings.Repeat("1 ", 32)+"1 #"+strings.Repeat("s", 97)+")", api.ErrLong, 66)
	wantDoitFault(t, "#("+strings.Repeat("1 ", 31)+"#"+strings.Repeat("s", 97)+" 1 2)", api.ErrLong, 64)
	wantDoitFault(t, "[:a :b :c :d :e :f :g :h :i | "+long+"]", api.ErrLong, 26)
	wantDoitFault(t, nested("#(", 24, strings.Repeat("1 ", 32)+"#()", ")"), api.ErrDeep, 112)
	wantDoitFault(t, nested("#(", 24, strings.Repeat("1 ", 32)+"1 #()", ")"), api.ErrLong, 112)
	wantDoitFault(t, deep+" "+long+" )", api.ErrSyntax, 86)
	wantDoitFault(t, long+" super", api.ErrSyntax, 34)
	wantMethodFault(t, long+" 1073741824", api.ErrSyntax, 34)
}

// P8.3: the texts of trees.
func TestTexts(t *testing.T) {
	for source, want := range map[string]string{
		"": "", "||": "", " a . ": "a", "a.b": "a. b", "|a|": "| a |", "|a b|a.^b": "| a b | a. ^b", "^ 'it''s'": "^'it''s'", "''": "''", "#+": "#+", "#a:b:": "#a:b:", "-3": "-3", "-0": "0", "007": "7", "#( )": "#()", "#(1-2#(3)'a'nil)": "#(1 -2 #(3) 'a' nil)", "x:=y:=3": "x := y := 3",
		"(a b)c": "a b c", "(a+b)c": "(a + b) c", "(a b:c)d": "(a b: c) d", "(a:=b)c": "(a := b) c", "(a b;c)d": "(a b; c) d",
		"(a b)+c": "a b + c", "(a+b)+c": "a + b + c", "(a b:c)+d": "(a b: c) + d", "(a:=b)+c": "(a := b) + c", "(a b;c)+d": "(a b; c) + d",
		"a+(b c)": "a + b c", "a+(b+c)": "a + (b + c)", "a+(b c:d)": "a + (b c: d)", "a+(b:=c)": "a + (b := c)", "a+(b c;d)": "a + (b c; d)",
		"(a b)c:d": "a b c: d", "(a+b)c:d": "a + b c: d", "(a b:c)c:d": "(a b: c) c: d", "(a:=b)c:d": "(a := b) c: d", "(a b;c)c:d": "(a b; c) c: d",
		"a b:(c d)": "a b: c d", "a b:(c+d)": "a b: c + d", "a b:(c d:e)": "a b: (c d: e)", "a b:(c:=d)": "a b: (c := d)", "a b:(c d;e)": "a b: (c d; e)",
		"a b:(c)d:(e)": "a b: c d: e", "a:=(b c;d)": "a := b c; d", "a:=(b:=c)": "a := b := c", "^(a b;c)": "^a b; c", "^(a:=b)": "^a := b", "(a b;c).(a:=b)": "a b; c. a := b",
		"a b;c;+d;e:f g:h": "a b; c; + d; e: f g: h", "(a+b)+c;d": "a + b + c; d", "(a+b)c;d": "(a + b) c; d", "(a+b)c:d;e": "a + b c: d; e", "(a b:c)d;e": "(a b: c) d; e",
		"(a b:c)d:e;f": "(a b: c) d: e; f", "a b;+(c+d)": "a b; + (c + d)", "a b;c:(d+e)f:(g h:i)": "a b; c: d + e f: (g h: i)", "(a b;c)d;e": "(a b; c) d; e",
		"(a:=b)c;d": "(a := b) c; d", "super a;b": "super a; b", "super-1": "super - 1", "3--4": "3 - -4", "3-(-4)": "3 - -4", "-3-4": "-3 - 4",
		"[]": "[]", "[:a]": "[:a |]", "[:a :b|]": "[:a :b |]", "[|t|]": "[| t |]", "[||]": "[]", "[a]": "[a]", "[a.b.]": "[a. b]", "[:a|b]": "[:a | b]",
		"[:a||t u|]": "[:a | | t u |]", "[|t|a]": "[| t | a]", "[:a||t|^a]": "[:a | | t | ^a]", "[:a|||a]": "[:a | a]", "([a])value": "[a] value", "(#(1))a": "#(1) a", "((3))": "3",
		"\"c\"a\n\t+\"\"b": "a + b", "(super a)+(super b)": "super a + super b",
	} {
		wantRead(t, source, want)
	}
	for source, want := range map[string]string{
		" foo ": "foo", "foo a.": "foo a", "foo||": "foo", "foo|t|": "foo | t |", "foo|t u|a": "foo | t u | a", "+x": "+ x", "-x^x": "- x ^x", "at:x": "at: x", "at:x put:y": "at: x put: y",
		"at:x put:y|t|^t": "at: x put: y | t | ^t", "<=x|t|": "<= x | t |", "foo-3": "foo -3", "foo -3": "foo -3",
	} {
		s := asMethod(t, source)
		wantText(t, s, want)
		if again := asMethod(t, want); !alike(again, s) {
			t.Fatalf("%q is read as %+v, %q as %+v", source, s, want, again)
		}
	}
}

// P8.3: what is no tree of a method.
func TestNoTrees(t *testing.T) {
	a, b := named("a"), named("b")
	for _, n := range []api.Node{
		{}, {Kind: -1}, {Kind: 14}, {Kind: math.MaxInt}, {Kind: math.MinInt},
		integer(1 << 30), integer(-1<<30 - 1), integer(math.MaxInt), integer(math.MinInt),
		symbol(""), symbol("a b"), symbol("a:b"), symbol("+-"), symbol("3"), symbol("a::"), symbol("#a"),
		constant("self"), constant(""), constant("a"), constant("super"),
		named(""), named("nil"), named("true"), named("false"), named("super"), named("3"), named("a b"), named("a:"), named("+"), named(" a"),
		super(), returned(returned(a)), message("a"), message("+", a),
		assigned("", a), assigned("a b", a), assigned("a:", a), assigned("3", a), assigned("a", super()), assigned("a", returned(b)), assigned("a", message("b")), assigned("a", api.Node{}),
		{Kind: api.NodeAssign, Text: "a"}, {Kind: api.NodeAssign, Text: "a", Kids: []api.Node{a, b}},
		{Kind: api.NodeReturn}, {Kind: api.NodeReturn, Kids: []api.Node{a, b}}, returned(super()), returned(api.Node{}),
		sent("b"), sent("+"), sent("+", a), sent("b:", a), sent("b:c:", a, b), sent("b", a, b), sent("b:", a, b, b), sent("+", a, b, b), sent("", a), sent("", a, b), sent("Foo", a), sent("Foo:", a, b),
		sent("self", a), sent("nil", a), sent("b:C:", a, b, b), sent("b:c", a, b), sent("+-", a, b), sent("+++", a, b), sent("a b", a), sent("|", a, b), sent("b::", a, b, b), sent(":", a, b),
		sent("+", a, super()), sent("b:", a, super()), sent("b", returned(a)), sent("b", message("a")), sent("b", api.Node{}), sent("+", a, returned(b)), sent("+", a, message("b")), sent("+", a, api.Node{}),
		cascaded(), cascaded(a), cascaded(a, message("b")), cascaded(a, sent("b", a), message("b")), cascaded(a, message("b"), sent("b", a)), cascaded(a, message("b"), b), cascaded(message("b"), message("b"), message("b")),
		cascaded(a, message("+"), message("b")), cascaded(a, message("b"), message("b", a)), cascaded(a, message("b"), message("Foo")), cascaded(a, message("b"), message("+", super())), cascaded(a, message("b"), api.Node{}),
		cascaded(returned(a), message("b"), message("b")), cascaded(api.Node{}, message("b"), message("b")), cascaded(a, message(""), message("b")),
		array(a), array(super()), array(block(nil, 0)), array(sent("a", a)), array(named("self")), array(integer(1 << 30)), array(array(a)), array(api.Node{}), array(returned(a)), array(constant("self")),
		block(nil, 1), block(words("a"), -1), block(words("a"), 2), block(words("a"), math.MaxInt), block(words("a"), math.MinInt), block([]string{""}, 0), block([]string{"a b"}, 1), block([]string{"a:"}, 1), block([]string{"3"}, 0),
		block(nil, 0, returned(a), b), block(nil, 0, super()), block(nil, 0, api.Node{}), block(nil, 0, message("a")), block(nil, 0, returned(a), returned(b)),
	} {
		wantNoTree(t, n)
		wantNoTree(t, a, n)
		wantNoTree(t, block(nil, 0, n))
		if n.Kind != api.NodeSuper {
			wantNoTree(t, sent("+", n, a), a)
		}
		wantNoTree(t, sent("b:", a, n))
		wantNoTree(t, assigned("a", n))
		wantNoTree(t, cascaded(a, message("b"), message("b:c:", a, n)))
		wantNoTree(t, array(n))
	}
	wantNoTree(t, returned(a), returned(b))
	wantNoTree(t, sent("b", returned(a)))
	for _, s := range []api.Source{
		{Selector: "x:"}, {Selector: "x:", Params: 1}, {Selector: "x:", Names: words("a")}, {Selector: "x:", Params: 2, Names: words("a b")}, {Selector: "x", Params: 1, Names: words("a")},
		{Selector: "+"}, {Selector: "+", Params: 0, Names: words("a")}, {Params: 1, Names: words("a")}, {Params: -1, Names: words("a")}, {Params: 1}, {Params: math.MaxInt}, {Params: math.MinInt},
		{Selector: "Foo"}, {Selector: "self"}, {Selector: "a b"}, {Selector: "+-", Params: 1, Names: words("a")}, {Selector: "Foo:", Params: 1, Names: words("a")}, {Selector: " "},
		{Names: []string{"a b"}}, {Names: []string{""}}, {Names: words("a 3")}, {Selector: "x:", Params: 1, Names: []string{"a:"}},
	} {
		wantRefused(t, s, api.ErrTree)
	}
}

// P8.3: of a node what its kind is not told to have is zero.
func TestNothingMore(t *testing.T) {
	a := named("a")
	for _, n := range []api.Node{
		integer(1), text("x"), symbol("x"), array(integer(1)), constant("nil"), a, assigned("a", a), sent("b", a), cascaded(a, message("b"), message("c")), block(words("a"), 1, a),
		returned(a), sent("b", super()), array(), sent("b", cascaded(a, message("b"), message("c")))} {
		wantPrinted(t, doit(n))
		has := map[int]string{
			api.NodeInt: "number", api.NodeText: "text", api.NodeSymbol: "text", api.NodeArray: "kids", api.NodeConst: "text", api.NodeName: "text", api.NodeAssign: "text kids",
			api.NodeSend: "text kids", api.NodeCascade: "kids", api.NodeMessage: "text kids", api.NodeBlock: "number names kids", api.NodeReturn: "kids",
		}
		kinds := 0
		copied([]api.Node{n}, func(*api.Node) { kinds++ })
		for which := range kinds {
			for _, field := range words("text number names kids") {
				broken := which
				tree := doit(copied([]api.Node{n}, func(m *api.Node) {
					if broken--; broken != -1 || strings.Contains(has[m.Kind], field) {
						return
					}
					switch field {
					case "text":
						m.Text = "a"
					case "number":
						m.Number = 1
					case "names":
						m.Names = words("a")
					case "kids":
						m.Kids = []api.Node{a}
					}
				})...)
				if alike(tree, doit(n)) {
					continue
				}
				wantRefused(t, tree, api.ErrTree)
			}
		}
	}
}

func wantPrinted(t *testing.T, s api.Source) {
	t.Helper()
	if _, e := parse.Print(s); e != api.OK {
		t.Fatalf("Print(%s): %d", brief(s), e)
	}
}

// P8.3: the bounds hold of trees, too; that of the source's length alone is asked last.
func TestBoundsOfTrees(t *testing.T) {
	a := named("a")
	name, word := strings.Repeat("n", 32), strings.Repeat("w", 31)
	long := name + "n"
	eight := []api.Node{a, a, a, a, a, a, a, a}
	taken := []api.Node{
		named(name), assigned(name, a), sent(name, a), sent(name+":", a, a), block([]string{name}, 1), symbol(strings.Repeat("s", 96)), text(strings.Repeat("'", 256)),
		sent(strings.Repeat(word+":", 3), a, a, a, a), sent(strings.Repeat("a:", 8), append(eight, a)...), block(words("a b c d e f g h i"), 8), array(slices.Repeat([]api.Node{a}, 0)...),
		array(slices.Repeat([]api.Node{array()}, 32)...), cascaded(a, message("b"), message(strings.Repeat("a:", 8), eight...)),
	}
	for _, n := range taken {
		wantPrinted(t, doit(n))
	}
	refused := []api.Node{
		named(long), assigned(long, a), sent(long, a), sent(long+":", a, a), sent("a:"+long+":b:", a, a, a, a), block([]string{long}, 1), block([]string{"a", long}, 1), symbol(strings.Repeat("s", 97)),
		text(strings.Repeat("t", 257)), sent(strings.Repeat(word+":", 2)+word+"w:", a, a, a, a), sent(strings.Repeat("a:", 9), append(eight, a, a)...), block(words("a b c d e f g h i"), 9),
		array(slices.Repeat([]api.Node{integer(1)}, 33)...), cascaded(a, message("b"), message(strings.Repeat("a:", 9), append(eight, a)...)), cascaded(a, message(long), message("b")),
	}
	huge := slices.Repeat([]api.Node{text(strings.Repeat("t", 200))}, 50)
	wantRefused(t, doit(huge...), api.ErrLong)
	for _, n := range refused {
		wantNoTree(t, n)
		wantNoTree(t, append(slices.Clone(huge), n)...)
	}
	wantRefused(t, api.Source{Selector: long}, api.ErrTree)
	wantRefused(t, api.Source{Names: []string{long}}, api.ErrTree)
	wantRefused(t, api.Source{Selector: strings.Repeat("a:", 9), Params: 9, Names: words("a a a a a a a a a")}, api.ErrTree)
	wantText(t, api.Source{Selector: "a:a:a:a:a:a:a:a:", Params: 8, Names: words("b b b b b b b b")}, strings.TrimSpace(strings.Repeat("a: b ", 8)))
}

// wrapped is a node that a wrapper was laid around so many times.
func wrapped(n api.Node, count int, wrap func(api.Node) api.Node) api.Node {
	for range count {
		n = wrap(n)
	}
	return n
}

// P8.3: a tree nests as its text does: brackets that the grammar asks for count, others do not.
func TestNestOfTrees(t *testing.T) {
	a := named("a")
	for _, c := range []struct {
		fits int // how many of the wrappers have a text that is not too deep
		wrap func(api.Node) api.Node
	}{
		{24, func(n api.Node) api.Node { return block(nil, 0, n) }},
		{24, func(n api.Node) api.Node { return block(words("a b"), 1, a, returned(n)) }},
		{25, func(n api.Node) api.Node { return sent("+", a, n) }},
		{25, func(n api.Node) api.Node { return sent("b:", a, n) }},
		{25, func(n api.Node) api.Node { return sent("b:", n, a) }},
		{24, func(n api.Node) api.Node { return sent("b", sent("+", n, a)) }},
		{24, func(n api.Node) api.Node { return sent("b", assigned("c", n)) }},
		{12, func(n api.Node) api.Node { return sent("+", a, cascaded(n, message("b"), message("c"))) }},
		{25, func(n api.Node) api.Node { return cascaded(n, message("b"), message("c")) }},
		{25, func(n api.Node) api.Node { return cascaded(a, message("b"), message("+", n)) }},
	} {
		inner := c.wrap(a)
		wantPrinted(t, doit(wrapped(a, c.fits-1, c.wrap), inner))
		wantPrinted(t, doit(wrapped(a, c.fits, c.wrap), inner))
		wantNoTree(t, inner, wrapped(a, c.fits+1, c.wrap))
		wantNoTree(t, wrapped(a, 65000, c.wrap))
	}
	of := func(n api.Node) api.Node { return array(n) }
	wantPrinted(t, doit(wrapped(array(), 23, of)))
	wantNoTree(t, wrapped(array(), 24, of))
	wantPrinted(t, doit(block(nil, 0, wrapped(array(), 22, of))))
	wantNoTree(t, block(nil, 0, wrapped(array(), 23, of)))
	for _, wrap := range []func(api.Node) api.Node{
		func(n api.Node) api.Node { return sent("b", n) },
		func(n api.Node) api.Node { return sent("+", n, a) },
		func(n api.Node) api.Node { return assigned("b", n) },
	} {
		wantPrinted(t, doit(wrapped(a, 600, wrap)))
		wantRefused(t, doit(wrapped(a, 65000, wrap)), api.ErrLong)
		wantNoTree(t, wrapped(super(), 65000, wrap), super())
	}
}

// P8.3: a text of MaxSource bytes is written, one of a byte more is not.
func TestLongTexts(t *testing.T) {
	for _, more := range []int{0, 1} {
		last := named(strings.Repeat("n", 12+more))
		body := append(slices.Repeat([]api.Node{named("aa")}, 1021), last)
		want := strings.Repeat("aa. ", 1021) + last.Text
		if more == 0 {
			wantText(t, doit(body...), want)
		} else {
			wantRefused(t, doit(body...), api.ErrLong)
		}
		s := asDoit(t, strings.ReplaceAll(want, ". ", "."))
		if _, e := parse.Print(s); (e == api.OK) != (more == 0) {
			t.Fatalf("a source of a tree whose text has %d bytes: %d", len(want), e)
		}
	}
	wantRefused(t, doit(asDoit(t, strings.Repeat("a+b.", 1000)).Body...), api.ErrLong)
}

// P8.3: places are not looked at.
func TestPlacesOfTrees(t *testing.T) {
	s := asMethod(t, "at: x put: y | t | t := [:a | | b | #(1)] foo: x; bar. ^super baz")
	want, _ := parse.Print(s)
	s.At, s.Places = -7, []int{math.MaxInt}
	s = copiedSource(s, func(n *api.Node) { n.At, n.Places = math.MinInt, []int{-1, 2, -3, 4} })
	wantText(t, s, want)
	wantText(t, placeless(s), want)
}

// P8.1: nil and empty lists mean the same.
func TestEmptyLists(t *testing.T) {
	full := func(n *api.Node) {
		n.Names, n.Places, n.Kids = append([]string{}, n.Names...), append([]int{}, n.Places...), append([]api.Node{}, n.Kids...)
	}
	for _, source := range []string{"", "a", "[]", "#()", "a b", "a b; c", "^super c", "| t | 'x'"} {
		s := asDoit(t, source)
		filled := copiedSource(s, full)
		filled.Names, filled.Places, filled.Body = append([]string{}, filled.Names...), []int{}, append([]api.Node{}, filled.Body...)
		wantText(t, filled, source)
		wantText(t, copiedSource(s, unchanged), source)
	}
}

// span is the memory of a list, spare room too.
type span struct{ from, to uintptr }

func spanOf[T any](list []T) span {
	if cap(list) == 0 {
		return span{}
	}
	from := uintptr(unsafe.Pointer(unsafe.SliceData(list)))
	return span{from, from + uintptr(cap(list))*unsafe.Sizeof(list[:1][0])}
}

func spans(s api.Source) []span {
	out := []span{spanOf(s.Names), spanOf(s.Places), spanOf(s.Body)}
	var nodes func([]api.Node)
	nodes = func(list []api.Node) {
		for _, n := range list {
			out = append(out, spanOf(n.Names), spanOf(n.Places), spanOf(n.Kids))
			nodes(n.Kids)
		}
	}
	nodes(s.Body)
	return slices.DeleteFunc(out, func(x span) bool { return x == span{} })
}

// P8.1: each list of an answer is memory of its own.
func TestNewMemory(t *testing.T) {
	source := "at: x put: y | t u | t := [:a :b | | c d | #(1 #(2 3) 4). a b: c d: d; + a; e]. a b c d: e f: g; h: i j: k; l. ^super + 1 + 2 x: 3 y: 4"
	list := append(spans(asMethod(t, source)), spans(asMethod(t, source))...)
	slices.SortFunc(list, func(a, b span) int { return int(a.from) - int(b.from) })
	for i := range list[1:] {
		if list[i].to > list[i+1].from {
			t.Fatalf("two lists share memory: %v, %v", list[i], list[i+1])
		}
	}
}

// P8.1: no text of an answer holds the source.
func TestTextsAreCopies(t *testing.T) {
	source := "foo: bar " + strings.Repeat(" ", 300) + " Baz baz: 'text' put: #symbol"
	from := uintptr(unsafe.Pointer(unsafe.StringData(source)))
	s := asMethod(t, source)
	check := func(text string) {
		at := uintptr(unsafe.Pointer(unsafe.StringData(text)))
		if text != "" && at >= from && at < from+uintptr(len(source)) {
			t.Fatalf("%q lies in the source", text)
		}
	}
	check(s.Selector)
	for _, name := range s.Names {
		check(name)
	}
	copied(s.Body, func(n *api.Node) { check(n.Text) })
}

// roomy is a tree whose lists have spare room, with something in it.
func roomy(s api.Source) api.Source {
	s.Names, s.Places, s.Body = wide(s.Names, "spare"), wide(s.Places, 77), wide(roomyNodes(s.Body), named("spare"))
	return s
}

func roomyNodes(nodes []api.Node) []api.Node {
	out := slices.Clone(nodes)
	for i, n := range out {
		out[i].Names, out[i].Places, out[i].Kids = wide(n.Names, "spare"), wide(n.Places, 77), wide(roomyNodes(n.Kids), named("spare"))
	}
	return out
}

func wide[T any](list []T, spare T) []T {
	return append(slices.Clone(list), spare, spare, spare)[:len(list)]
}

// spread is a tree with the spare room of its lists told.
func spread(nodes []api.Node) []api.Node {
	out := slices.Clone(nodes[:cap(nodes)])
	for i, n := range out {
		out[i].Names, out[i].Places, out[i].Kids = slices.Clone(n.Names[:cap(n.Names)]), slices.Clone(n.Places[:cap(n.Places)]), spread(n.Kids)
	}
	return out
}

// P8.1: what is handed to Print is left as it is, spare room too.
func TestLeftAsItIs(t *testing.T) {
	for _, source := range []string{"at: x | t | t := [:a | | b | #(1 'x')] foo: x; bar: 3 + (4 * 5). ^super baz", "foo", "+ x [x]. ^x"} {
		s := roomy(asMethod(t, source))
		names, places, body := slices.Clone(s.Names[:cap(s.Names)]), slices.Clone(s.Places[:cap(s.Places)]), spread(s.Body)
		want, e := parse.Print(s)
		again, _ := parse.Print(s)
		if e != api.OK || again != want {
			t.Fatalf("Print of %q: %q, then %q", source, want, again)
		}
		if !slices.Equal(names, s.Names[:cap(s.Names)]) || !slices.Equal(places, s.Places[:cap(s.Places)]) || !reflect.DeepEqual(body, spread(s.Body)) {
			t.Fatalf("Print of %q changed its tree", source)
		}
	}
}

// P8.1: no source nests too deeply to be refused.
func TestDeepSources(t *testing.T) {
	for _, open := range []string{"(", "[", "#(", "a+(", "a b:(", "[^", "[:a|", "a:="} {
		source := strings.Repeat(open, 4096/len(open))
		wantDoitFault(t, source, api.ErrSyntax, len(source))
	}
	wantDoitFault(t, nested("(", 2047, "a", ")"), api.ErrDeep, 24)
	wantDoitFault(t, nested("[", 2048, "", "]"), api.ErrDeep, 24)
	asDoit(t, strings.Repeat("a:=", 1365)+"b")
	asDoit(t, strings.Repeat("a ", 2048))
	wantDoitFault(t, "a"+strings.Repeat(" b:c", 1023), api.ErrLong, 34)
}

// P8.2: what lex takes, parse takes by its tokens alone: blanks and comments change nothing but places.
func TestBlanks(t *testing.T) {
	for _, source := range []string{"a + b. [:x | x foo: 3; bar]. ^#(1 2 'x')", "| a | a := super b"} {
		tokens, _ := lex.Tokens(source)
		wide, _ := lex.Print(tokens)
		if a, b := asDoit(t, source), asDoit(t, strings.ReplaceAll(wide, " ", " \"c\"\n\t")); !alike(a, b) {
			t.Fatalf("%+v, with blanks %+v", a, b)
		}
	}
}
