package parse_test

import (
	"cmp"
	"fmt"
	"math/rand"
	"slices"
	"strconv"
	"strings"
	"testing"

	"kiln/api"
	"kiln/lex"
	"kiln/parse"
)

// The grammar, told over: a rule tells all places at which what it reads may
// end. All ways are gone, so that the tokens up to the furthest one that any
// rule read are the longest beginning of a source.

type rule func(m *matcher, from int) []int

type matcher struct {
	tokens   []api.Token
	furthest int
	known    map[string][]int
}

func token(fits func(m *matcher, i int) bool) rule {
	return func(m *matcher, from int) []int {
		if from >= len(m.tokens) || !fits(m, from) {
			return nil
		}
		m.furthest = max(m.furthest, from+1)
		return []int{from + 1}
	}
}

func kind(kind int) rule {
	return token(func(m *matcher, i int) bool { return m.tokens[i].Kind == kind })
}

func all(rules ...rule) rule {
	return func(m *matcher, from int) []int {
		ends := []int{from}
		for _, r := range rules {
			var next []int
			for _, end := range ends {
				next = append(next, r(m, end)...)
			}
			ends = sorted(next)
		}
		return ends
	}
}

func either(rules ...rule) rule {
	return func(m *matcher, from int) []int {
		var ends []int
		for _, r := range rules {
			ends = append(ends, r(m, from)...)
		}
		return sorted(ends)
	}
}

func perhaps(r rule) rule { return either(all(), r) }

func many(r rule) rule {
	return func(m *matcher, from int) []int {
		ends, next := []int{from}, []int{from}
		for len(next) > 0 {
			var more []int
			for _, end := range next {
				more = append(more, r(m, end)...)
			}
			next = slices.DeleteFunc(sorted(more), func(end int) bool { return slices.Contains(ends, end) })
			ends = append(ends, next...)
		}
		return sorted(ends)
	}
}

func some(r rule) rule { return all(r, many(r)) }

func sorted(ends []int) []int {
	slices.Sort(ends)
	return slices.Compact(ends)
}

// rules are the grammar's, by their names.
type rules map[string]rule

func (g rules) of(name string) rule {
	return func(m *matcher, from int) []int {
		key := name + strconv.Itoa(from)
		if ends, there := m.known[key]; there {
			return ends
		}
		ends := g[name](m, from)
		m.known[key] = ends
		return ends
	}
}

func isSmall(s string) bool { return s[0] >= 'a' && s[0] <= 'z' }

func isReserved(s string) bool {
	return slices.Contains([]string{"self", "super", "nil", "true", "false"}, s)
}

func smallName(m *matcher, i int) bool {
	x := m.tokens[i]
	return x.Kind == api.TokName && isSmall(x.Text) && !isReserved(x.Text)
}

func smallKeyword(m *matcher, i int) bool {
	return m.tokens[i].Kind == api.TokKeyword && isSmall(m.tokens[i].Text)
}

func operator(m *matcher, i int) bool { return m.tokens[i].Kind == api.TokBinary }

// superAhead is super with a token of that kind right behind it.
func superAhead(behind func(m *matcher, i int) bool) rule {
	return token(func(m *matcher, i int) bool {
		return m.tokens[i].Kind == api.TokName && m.tokens[i].Text == "super" && behind(m, i+1)
	})
}

func oneOf(texts ...string) rule {
	return token(func(m *matcher, i int) bool {
		return m.tokens[i].Kind == api.TokName && slices.Contains(texts, m.tokens[i].Text)
	})
}

func grammar() rules {
	g := rules{}
	name, unary, binary, keyword := kind(api.TokName), token(smallName), token(operator), token(smallKeyword)
	notSuper := token(func(m *matcher, i int) bool { return m.tokens[i].Kind == api.TokName && m.tokens[i].Text != "super" })
	number := token(func(m *matcher, i int) bool { return m.tokens[i].Kind == api.TokInt && m.tokens[i].Number < 1<<30 })
	minus := token(func(m *matcher, i int) bool {
		x := m.tokens[i]
		return x.Kind == api.TokBinary && x.Text == "-" && m.tokens[i+1].Kind == api.TokInt && m.tokens[i+1].At == x.At+1
	})
	integer := either(number, all(minus, kind(api.TokInt)))
	bar, open, closing := kind(api.TokBar), kind(api.TokOpen), kind(api.TokClose)
	g["doit"] = g.of("rest")
	g["method"] = all(either(unary, all(binary, name), some(all(keyword, name))), g.of("rest"))
	g["rest"] = all(g.of("temps"), g.of("body"), kind(api.TokStop))
	g["temps"] = perhaps(all(bar, many(name), bar))
	dot := kind(api.TokDot)
	g["body"] = perhaps(all(many(all(g.of("expr"), dot)), either(g.of("expr"), all(kind(api.TokReturn), g.of("expr"))), perhaps(dot)))
	sent := either(g.of("unary sends"), g.of("binary sends"), g.of("keyword sends"))
	assigned := func(m *matcher, i int) bool { return m.tokens[i].Kind == api.TokAssign }
	g["expr"] = either(all(either(notSuper, superAhead(assigned)), kind(api.TokAssign), g.of("expr")), g.of("keywords"), all(sent, some(all(kind(api.TokCascade), g.of("message")))))
	g["unary sends"] = all(either(g.of("primary"), superAhead(smallName)), some(unary))
	g["binary sends"] = all(either(g.of("unaries"), superAhead(operator)), some(all(binary, g.of("unaries"))))
	g["keyword sends"] = all(either(g.of("binaries"), superAhead(smallKeyword)), some(all(keyword, g.of("binaries"))))
	g["unaries"] = either(g.of("primary"), g.of("unary sends"))
	g["binaries"] = either(g.of("unaries"), g.of("binary sends"))
	g["keywords"] = either(g.of("binaries"), g.of("keyword sends"))
	g["message"] = either(unary, all(binary, g.of("unaries")), some(all(keyword, g.of("binaries"))))
	literal := either(integer, kind(api.TokText), kind(api.TokSymbol), all(kind(api.TokHash), many(g.of("element")), closing))
	g["element"] = either(literal, oneOf("nil", "true", "false"))
	g["primary"] = either(notSuper, literal, all(open, g.of("expr"), closing), g.of("block"))
	end := kind(api.TokEndBlock)
	inner := all(g.of("temps"), g.of("body"), end)
	g["block"] = all(kind(api.TokBlock), either(inner, all(some(all(kind(api.TokColon), name)), either(end, all(bar, inner)))))
	return g
}

// syntax is what the grammar says of a source that lex takes.
func syntax(g rules, start string, tokens []api.Token) api.Fault {
	m := &matcher{tokens: tokens, known: map[string][]int{}}
	if slices.Contains(g.of(start)(m, 0), len(tokens)) {
		return api.Fault{}
	}
	return api.Fault{Code: api.ErrSyntax, At: tokens[m.furthest].At}
}

func both(source string, method bool) (api.Source, api.Fault) {
	if method {
		return parse.Method(source)
	}
	return parse.Doit(source)
}

// holdSyntax holds what a source is refused by against the grammar.
func holdSyntax(t *testing.T, g rules, source string) {
	t.Helper()
	tokens, fault := lex.Tokens(source)
	for start, method := range map[string]bool{"doit": false, "method": true} {
		want := fault
		if fault.Code == api.OK {
			want = syntax(g, start, tokens)
		}
		_, got := both(source, method)
		if want.Code == api.OK && (got.Code == api.ErrLong || got.Code == api.ErrDeep) {
			continue
		}
		if got != want {
			t.Fatalf("%q as a %s: %+v, want %+v", source, start, got, want)
		}
	}
}

func pieces() []string {
	return []string{"a", "b", "Foo", "self", "super", "nil", "at:", "At:", "+", "-", "3", "1073741824", "#s", "'t'", "#(", "(", ")", "[", "]", "|", ":", ":=", "^", ".", ";"}
}

// P8.2: every source of three tokens, and of four that begin alike.
func TestAllShortSources(t *testing.T) {
	g := grammar()
	list := pieces()
	for _, first := range append(list, "") {
		for _, second := range append(list, "-3") {
			for _, third := range append(list, "", "-3") {
				holdSyntax(t, g, first+" "+second+" "+third)
				holdSyntax(t, g, "a + "+first+" "+second+" "+third)
				holdSyntax(t, g, "[:a | "+first+" "+second+" "+third)
			}
		}
	}
}

func pick[T any](r *rand.Rand, list ...T) T { return list[r.Intn(len(list))] }

// maker makes trees at random; where it is wild, some of them pass a bound.
type maker struct {
	r    *rand.Rand
	wild bool
}

// rare tells, of a wild maker, whether now is the time to pass a bound.
func (m maker) rare() bool { return m.wild && m.r.Intn(60) == 0 }

func (m maker) long(s string, most int) string {
	if m.r.Intn(30) != 0 && !m.rare() {
		return s
	}
	length := most
	if m.rare() {
		length++
	}
	return s + strings.Repeat("n", max(0, length-len(s)))
}

func (m maker) name() string {
	return m.long(pick(m.r, "a", "b", "x9", "Foo", "self", "super", "nil", "true"), api.MaxName)
}

func (m maker) names(most int) []string {
	var out []string
	for range m.r.Intn(most + 1) {
		out = append(out, m.name())
	}
	return out
}

func (m maker) literal(depth int) api.Node {
	switch m.r.Intn(5 + min(depth, 1)) {
	case 0:
		return integer(pick(m.r, 0, 1, -1, 42, -1<<30, 1<<30-1))
	case 1:
		return text(m.long(pick(m.r, "", "a", "it's", "''", "\"c\"", "\x00\xff"), api.MaxText))
	case 2:
		return symbol(m.long(pick(m.r, "a", "Foo", "nil"), api.MaxSelector))
	case 3:
		return symbol(pick(m.r, "+", "-", "<=", "at:", "At:Put:"))
	case 4:
		return constant(pick(m.r, "nil", "true", "false"))
	}
	count := m.r.Intn(4)
	if m.r.Intn(10) == 0 {
		count = pick(m.r, 31, 32)
	}
	if m.rare() {
		count = pick(m.r, 33, 34)
	}
	var kids []api.Node
	for range count {
		kids = append(kids, m.literal(depth-1))
	}
	return array(kids...)
}

func (m maker) selector() string {
	switch m.r.Intn(3) {
	case 0:
		return m.long(pick(m.r, "a", "foo", "x9"), api.MaxName)
	case 1:
		return pick(m.r, "+", "-", "<=", ",", "//")
	}
	count := 1 + m.r.Intn(3)
	if m.r.Intn(10) == 0 {
		count = 8
	}
	if m.rare() {
		count = 9 + m.r.Intn(2)
	}
	var out strings.Builder
	for range count {
		out.WriteString(m.long(pick(m.r, "a", "at", "self"), pick(m.r, api.MaxName, api.MaxName-1)) + ":")
	}
	return out.String()
}

// arguments is how many a selector takes, told by its form alone.
func arguments(selector string) int {
	if selector != "" && !isSmall(selector) {
		return 1
	}
	return strings.Count(selector, ":")
}

func (m maker) message(depth int) api.Node {
	out := message(m.selector())
	for range arguments(out.Text) {
		out.Kids = append(out.Kids, m.expression(depth-1))
	}
	return out
}

func (m maker) receiver(depth int) api.Node {
	if m.r.Intn(6) == 0 {
		return super()
	}
	return m.expression(depth - 1)
}

func (m maker) expression(depth int) api.Node {
	if depth <= 0 || m.r.Intn(5) == 0 {
		if m.r.Intn(2) == 0 {
			return m.literal(depth)
		}
		return named(m.long(pick(m.r, "a", "b", "Foo", "self"), api.MaxName))
	}
	switch m.r.Intn(8) {
	case 0:
		return assigned(m.name(), m.expression(depth-1))
	case 1:
		kids := []api.Node{m.receiver(depth)}
		for range 2 + m.r.Intn(3) {
			kids = append(kids, m.message(depth))
		}
		return cascaded(kids...)
	case 2:
		params := m.names(3)
		if m.rare() {
			params = slices.Repeat([]string{"p"}, 9)
		}
		return block(append(params, m.names(2)...), len(params), m.body(depth-1)...)
	}
	out := m.message(depth)
	return sent(out.Text, append([]api.Node{m.receiver(depth)}, out.Kids...)...)
}

func (m maker) body(depth int) []api.Node {
	var out []api.Node
	for range m.r.Intn(4) {
		out = append(out, m.expression(depth))
	}
	if m.r.Intn(3) == 0 {
		out = append(out, returned(m.expression(depth)))
	}
	return out
}

func (m maker) source(depth int) api.Source {
	s := api.Source{Body: m.body(depth)}
	if m.r.Intn(2) == 0 {
		s.Selector = m.selector()
		s.Params = arguments(s.Selector)
		for range s.Params {
			s.Names = append(s.Names, m.name())
		}
	}
	s.Names = append(s.Names, m.names(3)...)
	return s
}

// sower writes a tree as a source, with blanks, comments and brackets as they
// come, and tells the places as it goes, and what passes a bound.
type sower struct {
	r      *rand.Rand
	plain  bool // no bracket that need not be
	text   strings.Builder
	open   int
	faults []api.Fault
}

func (w *sower) fault(code api.Errno, at int) {
	w.faults = append(w.faults, api.Fault{Code: code, At: at})
}

func (w *sower) rare(n int) bool { return !w.plain && w.r.Intn(n) == 0 }

// put writes a token and what may stand behind it, and tells its place.
func (w *sower) put(s string) int {
	at := w.text.Len()
	w.text.WriteString(s + pick(w.r, " ", " ", "\n", "\t \r", "\"c'$\"", " \"\" "))
	return at
}

func (w *sower) bounded(s, shown string, most int) int {
	at := w.put(shown)
	if len(s) > most {
		w.fault(api.ErrLong, at)
	}
	return at
}

func (w *sower) name(s string) int { return w.bounded(s, s, api.MaxName) }

func (w *sower) begin(s string) int {
	at := w.put(s)
	if w.open++; w.open > api.MaxNest {
		w.fault(api.ErrDeep, at)
	}
	return at
}

func (w *sower) end(s string) {
	w.open--
	w.put(s)
}

// worded writes the words of a selector, each with what one writes behind it, and tells the first one's place.
func (w *sower) worded(selector string, one func(i int)) int {
	if !strings.HasSuffix(selector, ":") {
		at := w.name(selector)
		if arguments(selector) == 1 {
			one(0)
		}
		return at
	}
	first, length := -1, 0
	for i, word := range strings.Split(strings.TrimSuffix(selector, ":"), ":") {
		at := w.bounded(word, word+":", api.MaxName)
		if length += len(word) + 1; length > api.MaxSelector || i >= api.MaxArgs {
			w.fault(api.ErrLong, at)
		}
		if i == 0 {
			first = at
		}
		one(i)
	}
	return first
}

func (w *sower) source(s api.Source) api.Source {
	s = copiedSource(s, unchanged)
	w.put("")
	s.Places = make([]int, len(s.Names))
	if s.Selector != "" {
		s.At = w.worded(s.Selector, func(i int) { s.Places[i] = w.name(s.Names[i]) })
	}
	w.temps(s.Names, s.Places, s.Params)
	w.body(s.Body)
	return s
}

func (w *sower) temps(names []string, places []int, from int) {
	if len(names) == from && !w.rare(4) {
		return
	}
	w.put("|")
	for i := from; i < len(names); i++ {
		places[i] = w.name(names[i])
	}
	w.put("|")
}

func (w *sower) body(list []api.Node) {
	for i := range list {
		if i > 0 {
			w.put(".")
		}
		w.node(&list[i])
	}
	if len(list) > 0 && w.rare(3) {
		w.put(".")
	}
}

// operand writes a node, in brackets if it is of one of these kinds, or just so.
func (w *sower) operand(n *api.Node, bracketed bool) {
	count := 0
	for w.rare(8) && n.Kind != api.NodeSuper {
		count++
	}
	if bracketed {
		count = max(count, 1)
	}
	for range count {
		w.begin("(")
	}
	w.node(n)
	for range count {
		w.end(")")
	}
}

func isLoose(n *api.Node) bool { return n.Kind == api.NodeAssign || n.Kind == api.NodeCascade }

func isWorded(n *api.Node) bool { return n.Kind == api.NodeSend && strings.HasSuffix(n.Text, ":") }

func isOperated(n *api.Node) bool {
	return n.Kind == api.NodeSend && !isWorded(n) && arguments(n.Text) == 1
}

func (w *sower) message(n *api.Node, arguments []api.Node) {
	n.At = w.worded(n.Text, func(i int) {
		x := &arguments[i]
		w.operand(x, isLoose(x) || isWorded(x) || isOperated(x) && !strings.HasSuffix(n.Text, ":"))
	})
}

func (w *sower) receiver(n *api.Node, selector string) {
	w.operand(n, isLoose(n) || isWorded(n) || isOperated(n) && arguments(selector) == 0)
}

func (w *sower) node(n *api.Node) {
	switch n.Kind {
	case api.NodeInt:
		n.At = w.text.Len()
		w.put(strconv.Itoa(n.Number))
	case api.NodeText:
		n.At = w.bounded(n.Text, "'"+strings.ReplaceAll(n.Text, "'", "''")+"'", api.MaxText)
	case api.NodeSymbol:
		n.At = w.bounded(n.Text, "#"+n.Text, api.MaxSelector)
	case api.NodeArray:
		n.At = w.begin("#(")
		for i := range n.Kids {
			if i >= api.MaxArray {
				w.fault(api.ErrLong, w.text.Len())
			}
			w.node(&n.Kids[i])
		}
		w.end(")")
	case api.NodeConst, api.NodeName:
		n.At = w.name(n.Text)
	case api.NodeSuper:
		n.At = w.put("super")
	case api.NodeAssign:
		n.At = w.name(n.Text)
		w.put(":=")
		w.operand(&n.Kids[0], false)
	case api.NodeSend:
		w.receiver(&n.Kids[0], n.Text)
		w.message(n, n.Kids[1:])
	case api.NodeCascade:
		w.receiver(&n.Kids[0], n.Kids[1].Text)
		for i := range n.Kids[1:] {
			if at := w.text.Len(); i > 0 {
				w.put(";")
				if i == 1 {
					n.At = at
				}
			}
			w.message(&n.Kids[i+1], n.Kids[i+1].Kids)
		}
	case api.NodeBlock:
		w.block(n)
	case api.NodeReturn:
		n.At = w.put("^")
		w.operand(&n.Kids[0], false)
	}
}

func (w *sower) block(n *api.Node) {
	n.At = w.begin("[")
	n.Places = make([]int, len(n.Names))
	for i := range n.Number {
		w.text.WriteString(":")
		n.Places[i] = w.name(n.Names[i])
		if i >= api.MaxArgs {
			w.fault(api.ErrLong, n.Places[i])
		}
	}
	if n.Number > 0 && (len(n.Names) > n.Number || len(n.Kids) > 0 || w.rare(2)) {
		w.put("|")
		w.temps(n.Names, n.Places, n.Number)
	} else if n.Number == 0 {
		w.temps(n.Names, n.Places, 0)
	}
	w.body(n.Kids)
	w.end("]")
}

// first is the fault that is told: by its place; at one place ErrDeep ahead of ErrLong.
func (w *sower) first() api.Fault {
	if len(w.faults) == 0 {
		return api.Fault{}
	}
	return slices.MinFunc(w.faults, func(a, b api.Fault) int { return cmp.Or(a.At-b.At, int(a.Code-b.Code)) })
}

// P8.2, P8.4: trees at random, written as they may be written, are read as they were; what passes a bound is told.
func TestTreesAreRead(t *testing.T) {
	r := rand.New(rand.NewSource(82))
	counts := map[api.Errno]int{}
	for i := range 12000 {
		tree := maker{r, i%2 == 0}.source(1 + i%6)
		w := &sower{r: r}
		tree = w.source(tree)
		source := w.text.String()
		if len(source) > api.MaxSource {
			continue
		}
		want := w.first()
		got, fault := both(source, tree.Selector != "")
		counts[fault.Code]++
		if fault != want || want.Code == api.OK && !same(got, tree) || want.Code != api.OK && !same(got, api.Source{}) {
			t.Fatalf("%q:\n got %+v, %+v,\nwant %+v, %+v", source, got, fault, tree, want)
		}
	}
	if counts[api.OK] < 5000 || counts[api.ErrLong] < 500 {
		t.Fatalf("too few of one kind: %v", counts)
	}
}

// P8.2: nests of blocks, brackets and arrays around the bound.
func TestNestsAreRead(t *testing.T) {
	r := rand.New(rand.NewSource(83))
	counts := map[api.Errno]int{}
	m := maker{r, true}
	for range 3000 {
		n := m.literal(3)
		for range 26 + r.Intn(20) {
			switch r.Intn(5) {
			case 0:
				n = block(nil, 0, n)
			case 1:
				n = sent("+", named("a"), n)
			case 2:
				n = sent("a:", n, integer(3))
			case 3:
				n = cascaded(n, message("b"), message("c:", m.literal(2)))
			case 4:
				n = assigned("a", n)
			}
		}
		w := &sower{r: r, plain: true}
		tree := w.source(doit(n))
		want := w.first()
		got, fault := parse.Doit(w.text.String())
		counts[fault.Code]++
		if fault != want || want.Code == api.OK && !same(got, tree) {
			t.Fatalf("%q:\n got %+v, %+v,\nwant %+v, %+v", w.text.String(), got, fault, tree, want)
		}
		printed, e := parse.Print(doit(n))
		if (e == api.OK) != (want.Code == api.OK) || e != api.OK && e != api.ErrTree || e == api.OK && printed != plainBody([]api.Node{n}) {
			t.Fatalf("Print(%+v) = %q, %d, want %+v", n, printed, e, want)
		}
	}
	if counts[api.OK] < 300 || counts[api.ErrDeep] < 300 {
		t.Fatalf("too few of one kind: %v", counts)
	}
}

// The text of a tree, told over. Of what is no tree it is some text.

func plainWords(selector string, one func(i int) string) string {
	if !strings.HasSuffix(selector, ":") {
		if arguments(selector) == 0 {
			return selector
		}
		return selector + " " + one(0)
	}
	var out []string
	for i, word := range strings.Split(strings.TrimSuffix(selector, ":"), ":") {
		out = append(out, word+": "+one(i))
	}
	return strings.Join(out, " ")
}

func plainParts(parts ...string) string {
	return strings.Join(slices.DeleteFunc(parts, func(s string) bool { return s == "" }), " ")
}

func plainTemps(names []string) string {
	if len(names) == 0 {
		return ""
	}
	return "| " + strings.Join(names, " ") + " |"
}

func plainBody(list []api.Node) string { return plainList(list, ". ") }

func plainList(list []api.Node, between string) string {
	var out []string
	for i := range list {
		out = append(out, plainNode(&list[i]))
	}
	return strings.Join(out, between)
}

func plainIn(brackets bool, n *api.Node) string {
	if brackets {
		return "(" + plainNode(n) + ")"
	}
	return plainNode(n)
}

// kid is a node of a list; there may be none.
func kid(list []api.Node, i int) *api.Node {
	if i < len(list) {
		return &list[i]
	}
	return &api.Node{}
}

func plainMessage(selector string, list []api.Node) string {
	return plainWords(selector, func(i int) string {
		x := kid(list, i)
		return plainIn(isLoose(x) || isWorded(x) || isOperated(x) && !strings.HasSuffix(selector, ":"), x)
	})
}

func plainReceiver(n *api.Node, selector string) string {
	return plainIn(isLoose(n) || isWorded(n) || isOperated(n) && arguments(selector) == 0, n) + " "
}

func plainNode(n *api.Node) string {
	rest := n.Kids[min(1, len(n.Kids)):]
	switch n.Kind {
	case api.NodeInt:
		return strconv.Itoa(n.Number)
	case api.NodeText:
		return "'" + strings.ReplaceAll(n.Text, "'", "''") + "'"
	case api.NodeSymbol:
		return "#" + n.Text
	case api.NodeArray:
		return "#(" + plainList(n.Kids, " ") + ")"
	case api.NodeConst, api.NodeName:
		return n.Text
	case api.NodeSuper:
		return "super"
	case api.NodeAssign:
		return n.Text + " := " + plainNode(kid(n.Kids, 0))
	case api.NodeSend:
		return plainReceiver(kid(n.Kids, 0), n.Text) + plainMessage(n.Text, rest)
	case api.NodeCascade:
		return plainReceiver(kid(n.Kids, 0), kid(n.Kids, 1).Text) + plainList(rest, "; ")
	case api.NodeMessage:
		return plainMessage(n.Text, n.Kids)
	case api.NodeReturn:
		return "^" + plainNode(kid(n.Kids, 0))
	case api.NodeBlock:
		if n.Number < 0 || n.Number > len(n.Names) {
			return ""
		}
		params := ""
		for _, name := range n.Names[:n.Number] {
			params += ":" + name + " "
		}
		if n.Number > 0 {
			params += "|"
		}
		return "[" + plainParts(params, plainTemps(n.Names[n.Number:]), plainBody(n.Kids)) + "]"
	}
	return ""
}

func plainSource(s api.Source) string {
	if s.Params < 0 || s.Params > len(s.Names) {
		return ")"
	}
	head := ""
	if s.Selector != "" {
		head = plainWords(s.Selector, func(i int) string {
			if i < len(s.Names) {
				return s.Names[i]
			}
			return ")"
		})
	}
	return plainParts(head, plainTemps(s.Names[s.Params:]), plainBody(s.Body))
}

// P8.3, P8.4: the text of a tree, of those at random; it is read as that tree; a source and its text have one tree.
func TestTreesArePrinted(t *testing.T) {
	r := rand.New(rand.NewSource(84))
	counts := map[api.Errno]int{}
	for i := range 8000 {
		tree := maker{r, i%2 == 0}.source(1 + i%7)
		w := &sower{r: r, plain: true}
		w.source(tree)
		want, wantE := plainSource(tree), api.OK
		if w.first().Code != api.OK {
			want, wantE = "", api.ErrTree
		} else if len(want) > api.MaxSource {
			want, wantE = "", api.ErrLong
		}
		got, e := parse.Print(tree)
		counts[e]++
		if got != want || e != wantE {
			t.Fatalf("Print(%+v) =\n %q, %d,\n want %q, %d (%+v)", tree, got, e, want, wantE, w.first())
		}
		if e != api.OK {
			continue
		}
		again, fault := both(got, tree.Selector != "")
		if fault.Code != api.OK || !alike(again, tree) {
			t.Fatalf("%q is read as %+v, %+v, was written of %+v", got, again, fault, tree)
		}
	}
	if counts[api.OK] < 3000 || counts[api.ErrTree] < 500 || counts[api.ErrLong] < 30 {
		t.Fatalf("too few of one kind: %v", counts)
	}
}

// broken is a tree in which one thing is another one.
func broken(r *rand.Rand, m maker, s api.Source) api.Source {
	if r.Intn(8) == 0 {
		s = copiedSource(s, unchanged)
		switch r.Intn(4) {
		case 0:
			s.Selector = pick(r, "", "a", "Foo", "self", "+", "+-", "a:", "a:b:", "a:B:", "a b")
		case 1:
			s.Params += pick(r, -1, 1)
		case 2:
			s.Names = append(s.Names, pick(r, "a", "", "a b", "3", "a:", "nil"))
		case 3:
			s.Names = nil
		}
		return s
	}
	count := 0
	copied(s.Body, func(*api.Node) { count++ })
	which := r.Intn(count + 1)
	return copiedSource(s, func(n *api.Node) {
		if which--; which == -1 {
			breakNode(r, m, n)
		}
	})
}

func breakNode(r *rand.Rand, m maker, n *api.Node) {
	switch r.Intn(7) {
	case 0:
		n.Kind = r.Intn(16) - 1
	case 1:
		n.Text = pick(r, "", "a", "Foo", "self", "super", "nil", "+", "-", "+-", "a:", "a:b:", "A:", "a:b", "a b", "3", "x := y", "(a)", "#a", "'")
	case 2:
		n.Number = pick(r, 0, 1, -1, 2, 1<<30, -1<<30-1)
	case 3:
		n.Names = append(n.Names, pick(r, "a", "", "a b", "nil"))
	case 4:
		n.Kids = n.Kids[:r.Intn(len(n.Kids)+1)]
	case 5:
		n.Kids = slices.Insert(n.Kids, r.Intn(len(n.Kids)+1), pick(r, named("a"), m.expression(2), super(), message("b"), message("+", named("a")), returned(named("a")), api.Node{}))
	case 6:
		*n = pick(r, named("a"), m.expression(2), super(), message("b"), message("b:", named("a")), returned(named("a")), integer(-3), api.Node{})
	}
}

// P8.3: a tree with something broken in it is taken just if it is what its text is read as.
func TestBrokenTrees(t *testing.T) {
	r := rand.New(rand.NewSource(85))
	counts := map[api.Errno]int{}
	for i := range 30000 {
		m := maker{r, false}
		tree := broken(r, m, m.source(i%5))
		text := plainSource(tree)
		if len(text) > api.MaxSource {
			continue
		}
		read, fault := both(text, tree.Selector != "")
		want := api.ErrTree
		if fault.Code == api.OK && alike(read, tree) {
			want = api.OK
		}
		got, e := parse.Print(tree)
		counts[e]++
		if e != want || (e == api.OK) != (got == text && e == api.OK) || e != api.OK && got != "" {
			t.Fatalf("Print(%+v) = %q, %d, want %q, %d (%+v)", tree, got, e, text, want, fault)
		}
	}
	if counts[api.OK] < 3000 || counts[api.ErrTree] < 3000 {
		t.Fatalf("too few of one kind: %v", counts)
	}
}

// P8.2: sources in which a token is lost, or another one, or one more.
func TestBrokenSources(t *testing.T) {
	r := rand.New(rand.NewSource(86))
	g := grammar()
	for i := range 20000 {
		m := maker{r, false}
		tokens, fault := lex.Tokens(plainSource(m.source(i % 4)))
		if fault.Code != api.OK || len(tokens) > 60 {
			continue
		}
		var texts []string
		for _, x := range tokens[:len(tokens)-1] {
			s, _ := lex.Print([]api.Token{x, {Kind: api.TokStop}})
			texts = append(texts, s)
		}
		for range 1 + r.Intn(2) {
			at := r.Intn(len(texts) + 1)
			switch behind := min(at+1, len(texts)); r.Intn(3) {
			case 0:
				texts = slices.Delete(texts, at, behind)
			case 1:
				texts = slices.Replace(texts, at, behind, pick(r, pieces()...))
			case 2:
				texts = slices.Insert(texts, at, pick(r, pieces()...))
			}
		}
		source := ""
		for _, s := range texts {
			source += s
			if s != "-" || r.Intn(2) == 0 {
				source += " "
			}
		}
		holdSyntax(t, g, source)
	}
}

// P8.4: two sources have one tree just if their trees have one text.
func TestOneTreeOneText(t *testing.T) {
	r := rand.New(rand.NewSource(87))
	byText := map[string]string{}
	byTree := map[string]string{}
	for range 40000 {
		var b strings.Builder
		for range 1 + r.Intn(6) {
			b.WriteString(pick(r, "a", "b:", "+", "(a)", "(a b)", "[a]", "[:a|a]", "3", "-3", ";b", ".", "a:=", "^", "(", ")") + " ")
		}
		s, fault := parse.Doit(b.String())
		if fault.Code != api.OK {
			continue
		}
		printed, e := parse.Print(s)
		if e != api.OK {
			t.Fatalf("%q: %d", b.String(), e)
		}
		tree := fmt.Sprintf("%#v", placeless(s))
		if old, there := byText[printed]; there && old != tree {
			t.Fatalf("%q is the text of two trees", printed)
		}
		if old, there := byTree[tree]; there && old != printed {
			t.Fatalf("one tree has the texts %q, %q", old, printed)
		}
		byText[printed], byTree[tree] = tree, printed
	}
	if len(byText) < 300 {
		t.Fatalf("too few: %d", len(byText))
	}
}

// P8.1: no source and no tree stops a call short, and each is answered one way.
func TestNothingPanics(t *testing.T) {
	r := rand.New(rand.NewSource(81))
	for range 20000 {
		bytes := make([]byte, r.Intn(14))
		for i := range bytes {
			bytes[i] = pick(r, []byte("ab:=()[]|#'.;^+-3 \"A")...)
		}
		for _, method := range []bool{false, true} {
			s, fault := both(string(bytes), method)
			if again, f := both(string(bytes), method); f != fault || !same(again, s) {
				t.Fatalf("%q answers two ways", bytes)
			}
		}
		s := api.Source{Selector: pick(r, "", "a", "+", "a:", "a:b:"), Params: r.Intn(5) - 1, Names: slices.Repeat([]string{"a"}, r.Intn(3))}
		for range r.Intn(3) {
			s.Body = append(s.Body, anyNode(r, 3))
		}
		printed, e := parse.Print(s)
		if again, f := parse.Print(s); again != printed || f != e || e != api.OK && printed != "" {
			t.Fatalf("Print(%+v) answers %q, %d, then %q, %d", s, printed, e, again, f)
		}
	}
}

func anyNode(r *rand.Rand, depth int) api.Node {
	n := api.Node{Kind: r.Intn(15), Text: pick(r, "", "a", "+", "a:", "nil", "'"), Number: r.Intn(4) - 1, Names: slices.Repeat([]string{"a"}, r.Intn(3)), At: r.Intn(9) - 4}
	for range r.Intn(4) {
		if depth > 0 {
			n.Kids = append(n.Kids, anyNode(r, depth-1))
		}
	}
	return n
}
