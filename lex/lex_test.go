package lex_test

import (
	"math"
	"slices"
	"strconv"
	"strings"
	"testing"
	"unsafe"

	"kiln/api"
	"kiln/lex"
)

func named(s string) api.Token    { return api.Token{Kind: api.TokName, Text: s} }
func keyword(s string) api.Token  { return api.Token{Kind: api.TokKeyword, Text: s} }
func operator(s string) api.Token { return api.Token{Kind: api.TokBinary, Text: s} }
func symbol(s string) api.Token   { return api.Token{Kind: api.TokSymbol, Text: s} }
func text(s string) api.Token     { return api.Token{Kind: api.TokText, Text: s} }
func number(n int) api.Token      { return api.Token{Kind: api.TokInt, Number: n} }
func mark(kind int) api.Token     { return api.Token{Kind: kind} }

func stopped(tokens ...api.Token) []api.Token {
	return append(slices.Clone(tokens), mark(api.TokStop))
}

// at is the tokens with these places.
func at(tokens []api.Token, places ...int) []api.Token {
	tokens = slices.Clone(tokens)
	for i, place := range places {
		tokens[i].At = place
	}
	return tokens
}

func placeless(tokens []api.Token) []api.Token {
	tokens = slices.Clone(tokens)
	for i := range tokens {
		tokens[i].At = 0
	}
	return tokens
}

func lexed(t *testing.T, source string) []api.Token {
	t.Helper()
	tokens, fault := lex.Tokens(source)
	if fault != (api.Fault{}) {
		t.Fatalf("Tokens(%q): %+v", source, fault)
	}
	return tokens
}

// wantTokens holds a source's tokens, but for their places, against these and TokStop.
func wantTokens(t *testing.T, source string, want ...api.Token) {
	t.Helper()
	if got := lexed(t, source); !slices.Equal(placeless(got), stopped(want...)) {
		t.Fatalf("Tokens(%q) = %+v, want %+v", source, got, stopped(want...))
	}
}

// wantPlaced holds a source's tokens with their places against these.
func wantPlaced(t *testing.T, source string, want []api.Token) {
	t.Helper()
	if got := lexed(t, source); !slices.Equal(got, want) {
		t.Fatalf("Tokens(%q) = %+v, want %+v", source, got, want)
	}
}

func wantFault(t *testing.T, source string, code api.Errno, place int) {
	t.Helper()
	want := api.Fault{Code: code, At: place}
	if tokens, fault := lex.Tokens(source); fault != want || len(tokens) != 0 {
		t.Fatalf("Tokens(%.40q) = %+v, %+v, want %+v", source, tokens, fault, want)
	}
}

func wantPrint(t *testing.T, want string, tokens ...api.Token) {
	t.Helper()
	if got, e := lex.Print(tokens); got != want || e != api.OK {
		t.Fatalf("Print(%+v) = %q, %d, want %q", tokens, got, e, want)
	}
}

func wantNoPrint(t *testing.T, tokens ...api.Token) {
	t.Helper()
	if got, e := lex.Print(tokens); got != "" || e != api.ErrArg {
		t.Fatalf("Print(%+v) = %q, %d, want ErrArg", tokens, got, e)
	}
}

func wantSelector(t *testing.T, s string, want int, wantE api.Errno) {
	t.Helper()
	if n, e := lex.Selector(s); n != want || e != wantE {
		t.Fatalf("Selector(%.40q) = %d, %d, want %d, %d", s, n, e, want, wantE)
	}
}

func wantVariable(t *testing.T, s string, want api.Errno) {
	t.Helper()
	if e := lex.Variable(s); e != want {
		t.Fatalf("Variable(%.40q) = %d, want %d", s, e, want)
	}
}

const (
	operatorBytes = `+-*/\<>=~,%&?@`
	letters       = "abcdefghijklmnopqrstuvwxyzABCDEFGHIJKLMNOPQRSTUVWXYZ"
)

func reserved() []string { return []string{"self", "super", "nil", "true", "false"} }

// noNames is what is no name, as near to one as can be and far off.
func noNames() []string {
	return []string{"", " ", "3", "3a", "a b", "a ", " a", "a:", ":", "_", "a_b", "a-b", "+", "#a", "'a'", "a\x00", "\xff", "ä", "aä", "a\xc3"}
}

// others is every byte that begins no token.
func others() []byte {
	var list []byte
	for b := range 256 {
		if !strings.ContainsRune(letters+operatorBytes+"0123456789 \t\n\r\"'#()[]|:^.;", rune(b)) {
			list = append(list, byte(b))
		}
	}
	return list
}

// The chapter's examples, in their order.
func TestExamples(t *testing.T) {
	assign := mark(api.TokAssign)
	one := stopped(named("x"), assign, number(3))
	wantPlaced(t, "x := 3", at(one, 0, 2, 5, 6))
	wantPlaced(t, "x:=3", at(one, 0, 1, 3, 4))

	wantTokens(t, "at: a put: b", keyword("at"), named("a"), keyword("put"), named("b"))
	wantTokens(t, "a:b", keyword("a"), named("b"))

	wantTokens(t, "3--4<=x", number(3), operator("-"), operator("-"), number(4), operator("<="), named("x"))
	wantTokens(t, "===", operator("=="), operator("="))
	wantTokens(t, "->", operator("-"), operator(">"))
	wantTokens(t, "+-", operator("+"), operator("-"))

	wantTokens(t, "#at:put: #at:put #+ #(1)", symbol("at:put:"), symbol("at:"), named("put"),
		symbol("+"), mark(api.TokHash), number(1), mark(api.TokClose))
	wantTokens(t, "#a:b:=c", symbol("a:"), named("b"), assign, named("c"))

	wantPlaced(t, "'it''s' \"no\" 'x'", at(stopped(text("it's"), text("x")), 0, 13, 16))
	wantTokens(t, "''", text(""))

	wantPlaced(t, "", stopped())
	wantTokens(t, "[:a | a]", mark(api.TokBlock), mark(api.TokColon), named("a"), mark(api.TokBar),
		named("a"), mark(api.TokEndBlock))

	wantFault(t, "a 'b", api.ErrToken, 2)
	wantFault(t, "a \"b", api.ErrToken, 2)
	wantFault(t, "a # b", api.ErrToken, 2)
	wantFault(t, "#", api.ErrToken, 0)
	wantFault(t, "a $", api.ErrToken, 2)
	wantTokens(t, "1073741824", number(1073741824))
	wantFault(t, "1073741825", api.ErrToken, 0)
	wantTokens(t, "007", number(7))
	wantFault(t, strings.Repeat(" ", 4097), api.ErrLong, 4096)

	wantPrint(t, "x := 3", one...)
	wantPrint(t, "'it''s'", stopped(text("it's"))...)
	for _, token := range []api.Token{number(-1), named("3a"), operator("+-"), symbol("at:put"), {Kind: api.TokOpen, Text: "x"}} {
		wantNoPrint(t, stopped(token)...)
	}
	wantNoPrint(t)

	for s, n := range map[string]int{"size": 0, "+": 1, "//": 1, "at:put:": 2} {
		wantSelector(t, s, n, api.OK)
	}
	for _, s := range []string{"Size", "self", "+-", "at:put", ":", "", "at:Put:"} {
		wantSelector(t, s, 0, api.ErrArg)
	}
	wantVariable(t, "x", api.OK)
	wantVariable(t, "Foo", api.OK)
	wantVariable(t, "self", api.ErrReserved)
	for _, s := range []string{"3", "a:", ""} {
		wantVariable(t, s, api.ErrArg)
	}
}

// P7.2: what the words say in brackets.
func TestWordsInBrackets(t *testing.T) {
	wantTokens(t, "#at:put", symbol("at:"), named("put"))
	wantTokens(t, "a:=b", named("a"), mark(api.TokAssign), named("b"))
	wantTokens(t, "3--4", number(3), operator("-"), operator("-"), number(4))
	wantTokens(t, "+-", operator("+"), operator("-"))
}

// P7.2: a letter begins the longest name, a keyword's if its colon is no assignment's.
func TestNamesAndKeywords(t *testing.T) {
	for _, letter := range letters {
		s := string(letter)
		wantTokens(t, s, named(s))
		wantTokens(t, "a"+s+"9", named("a"+s+"9"))
		wantTokens(t, s+":", keyword(s))
	}
	for digit := range 10 {
		s := "a" + strconv.Itoa(digit)
		wantTokens(t, s, named(s))
		wantTokens(t, s+"b", named(s+"b"))
	}
	for _, s := range reserved() {
		wantTokens(t, s, named(s))
		wantTokens(t, s+":", keyword(s))
	}
	colon, assign := mark(api.TokColon), mark(api.TokAssign)
	wantTokens(t, "a:", keyword("a"))
	wantTokens(t, "a :", named("a"), colon)
	wantTokens(t, "a: =", keyword("a"), operator("="))
	wantTokens(t, "a:=", named("a"), assign)
	wantTokens(t, "a:==", named("a"), assign, operator("="))
	wantTokens(t, "a::", keyword("a"), colon)
	wantTokens(t, "a::=b", keyword("a"), assign, named("b"))
	wantTokens(t, "a::b", keyword("a"), colon, named("b"))
	wantTokens(t, "a:b:c", keyword("a"), keyword("b"), named("c"))
	wantTokens(t, "abc123def", named("abc123def"))
	wantTokens(t, strings.Repeat("x", api.MaxSource), named(strings.Repeat("x", api.MaxSource)))
}

// P7.2: digits, and what they say at most.
func TestInts(t *testing.T) {
	for n := range 2000 {
		wantTokens(t, strconv.Itoa(n), number(n))
	}
	for _, n := range []int{1<<30 - 1, 1 << 30} {
		wantTokens(t, strconv.Itoa(n), number(n))
		wantTokens(t, "000"+strconv.Itoa(n), number(n))
	}
	wantTokens(t, strings.Repeat("0", api.MaxSource), number(0))
	wantTokens(t, strings.Repeat("0", api.MaxSource-1)+"9", number(9))
	wantTokens(t, "3abc", number(3), named("abc"))
	wantTokens(t, "3a4", number(3), named("a4"))
	wantTokens(t, "3:", number(3), mark(api.TokColon))
	wantTokens(t, "3.4", number(3), mark(api.TokDot), number(4))
	wantTokens(t, "-3", operator("-"), number(3))
	wantTokens(t, "1 2", number(1), number(2))
	for _, s := range []string{"1073741825", "1073741830", "1073741900", "1100000000", "2000000000", "2147483648",
		"4294967296", "4294967297", "9223372036854775807", "9223372036854775808", "18446744073709551616",
		"18446744073709551617", "36893488147419103232", strings.Repeat("9", 4000)} {
		wantFault(t, s, api.ErrToken, 0)
		wantFault(t, "x 00"+s, api.ErrToken, 2)
	}
	wantFault(t, "1073741825a", api.ErrToken, 0)
}

// P7.2: what stands behind a #.
func TestSymbols(t *testing.T) {
	colon, assign := mark(api.TokColon), mark(api.TokAssign)
	wantTokens(t, "#a", symbol("a"))
	wantTokens(t, "#Ab9 c", symbol("Ab9"), named("c"))
	wantTokens(t, "#self#nil", symbol("self"), symbol("nil"))
	wantTokens(t, "#a:", symbol("a:"))
	wantTokens(t, "#a :", symbol("a"), colon)
	wantTokens(t, "#a: b:", symbol("a:"), keyword("b"))
	wantTokens(t, "#a:b:c:", symbol("a:b:c:"))
	wantTokens(t, "#a:B9:c", symbol("a:B9:"), named("c"))
	wantTokens(t, "#a:3:", symbol("a:"), number(3), colon)
	wantTokens(t, "#a:=b", symbol("a"), assign, named("b"))
	wantTokens(t, "#a:b:=", symbol("a:"), named("b"), assign)
	wantTokens(t, "#a:b:c:=", symbol("a:b:"), named("c"), assign)
	wantTokens(t, "#a::=b", symbol("a:"), assign, named("b"))
	wantTokens(t, "#a:b::=c", symbol("a:b:"), assign, named("c"))
	wantTokens(t, "#a::b:", symbol("a:"), colon, keyword("b"))
	wantTokens(t, "#a:+", symbol("a:"), operator("+"))
	wantTokens(t, "#a:#b:", symbol("a:"), symbol("b:"))
	wantTokens(t, "#+a", symbol("+"), named("a"))
	wantTokens(t, "#+:", symbol("+"), colon)
	wantTokens(t, "#<=>", symbol("<="), operator(">"))
	wantTokens(t, "#--", symbol("-"), operator("-"))
	wantTokens(t, "#->", symbol("-"), operator(">"))
	wantTokens(t, "#+-", symbol("+"), operator("-"))
	wantTokens(t, "#(#a)", mark(api.TokHash), symbol("a"), mark(api.TokClose))
	wantTokens(t, "#((", mark(api.TokHash), mark(api.TokOpen))
	for b := range 256 {
		if strings.ContainsRune(letters+operatorBytes+"(", rune(b)) {
			continue
		}
		wantFault(t, "#"+string([]byte{byte(b)}), api.ErrToken, 0)
		wantFault(t, " a #"+string([]byte{byte(b)})+"a", api.ErrToken, 3)
	}
}

// P7.2: operators, of all pairs of bytes.
func TestBinaries(t *testing.T) {
	for _, a := range operatorBytes {
		wantTokens(t, string(a), operator(string(a)))
		wantTokens(t, "#"+string(a), symbol(string(a)))
		wantTokens(t, string(a)+"x", operator(string(a)), named("x"))
		wantTokens(t, string(a)+"|", operator(string(a)), mark(api.TokBar))
		for _, b := range operatorBytes {
			pair := string(a) + string(b)
			if a == '-' || b == '-' {
				wantTokens(t, pair, operator(string(a)), operator(string(b)))
				wantTokens(t, "#"+pair, symbol(string(a)), operator(string(b)))
				continue
			}
			wantTokens(t, pair, operator(pair))
			wantTokens(t, "#"+pair, symbol(pair))
			wantTokens(t, pair+string(a), operator(pair), operator(string(a)))
		}
	}
	wantTokens(t, "++++", operator("++"), operator("++"))
	wantTokens(t, "++-+", operator("++"), operator("-"), operator("+"))
	wantTokens(t, "+ +", operator("+"), operator("+"))
}

// P7.2: texts, with any bytes in them.
func TestTexts(t *testing.T) {
	for b := range 256 {
		if b != '\'' {
			s := string([]byte{byte(b)})
			wantTokens(t, "'"+s+"'", text(s))
		}
	}
	wantTokens(t, "''''", text("'"))
	wantTokens(t, "''''''", text("''"))
	wantTokens(t, "'a''''b'", text("a''b"))
	wantTokens(t, "'''a'", text("'a"))
	wantTokens(t, "'a'''", text("a'"))
	wantTokens(t, "'a' 'b'", text("a"), text("b"))
	wantTokens(t, "'' ''", text(""), text(""))
	wantTokens(t, "'\"'x'\"'", text("\""), named("x"), text("\""))
	wantTokens(t, "'ä€'", text("ä€"))
	wantTokens(t, "'a'b", text("a"), named("b"))
	for _, s := range []string{"'", "'''", "'a''", "'''''", "'a", "'\"", "'a' '", "x'"} {
		wantFault(t, s, api.ErrToken, strings.LastIndex(" "+s, " ")+strings.Count(s, "x"))
	}
	wantFault(t, "'a' 'b", api.ErrToken, 4)
}

// P7.2: blanks and comments are passed over.
func TestBlanksAndComments(t *testing.T) {
	for b := range 256 {
		s := string([]byte{byte(b)})
		if strings.ContainsRune(" \t\n\r", rune(b)) {
			wantPlaced(t, s+"a"+s+"b"+s, at(stopped(named("a"), named("b")), 1, 3, 5))
		}
		if b != '"' {
			wantPlaced(t, "a\""+s+"\"b", at(stopped(named("a"), named("b")), 0, 4, 5))
		}
	}
	wantPlaced(t, "\"\"", at(stopped(), 2))
	wantPlaced(t, "\"a\"\"b\"c", at(stopped(named("c")), 6, 7))
	wantPlaced(t, "\"it's\" \"$_#\" x", at(stopped(named("x")), 13, 14))
	wantTokens(t, "a\"b\":", named("a"), mark(api.TokColon))
	wantTokens(t, ":\"\"=", mark(api.TokColon), operator("="))
	wantTokens(t, "+\"\"+", operator("+"), operator("+"))
	wantTokens(t, "1\"\"2", number(1), number(2))
	wantFault(t, "\"", api.ErrToken, 0)
	wantFault(t, "\"a\" \"b", api.ErrToken, 4)
	wantFault(t, "\"a\"\"", api.ErrToken, 3)
	wantFault(t, "\"'", api.ErrToken, 0)
}

// P7.2: the tokens that have no Text, and where they end.
func TestMarks(t *testing.T) {
	kinds := map[string]int{"(": 8, ")": 9, "[": 10, "]": 11, "|": 12, ":": 13, ":=": 14, "^": 15, ".": 16, ";": 17, "#(": 7}
	for s, kind := range kinds {
		wantPlaced(t, " "+s, at(stopped(mark(kind)), 1, 1+len(s)))
		wantTokens(t, s+s, mark(kind), mark(kind))
		wantTokens(t, s+"3"+s, mark(kind), number(3), mark(kind))
		wantTokens(t, s+"'a'"+s, mark(kind), text("a"), mark(kind))
	}
	wantTokens(t, "::=", mark(api.TokColon), mark(api.TokAssign))
	wantTokens(t, ":=:", mark(api.TokAssign), mark(api.TokColon))
	wantTokens(t, ":==", mark(api.TokAssign), operator("="))
	wantTokens(t, ": =", mark(api.TokColon), operator("="))
	wantTokens(t, "( )", mark(api.TokOpen), mark(api.TokClose))
}

// P7.2: the first place at which none begins, whatever stands behind it.
func TestFirstPlace(t *testing.T) {
	if n := len(others()); n != 256-52-14-10-4-3-9 {
		t.Fatalf("%d bytes begin no token", n)
	}
	for _, b := range others() {
		s := string([]byte{b})
		wantFault(t, s, api.ErrToken, 0)
		wantFault(t, "a"+s, api.ErrToken, 1)
		wantFault(t, "12"+s+"b", api.ErrToken, 2)
		wantFault(t, "'a' "+s+" 'b", api.ErrToken, 4)
		wantFault(t, "#a:"+s, api.ErrToken, 3)
	}
	wantFault(t, "a_b", api.ErrToken, 1)
	wantFault(t, "aäb", api.ErrToken, 1)
	wantFault(t, "1ä", api.ErrToken, 1)
	wantFault(t, "$ 99999999999", api.ErrToken, 0)
	wantFault(t, "99999999999 $", api.ErrToken, 0)
	wantFault(t, "a # 'b", api.ErrToken, 2)
}

// P7.2: how long a source may be; ErrLong comes ahead of all else.
func TestLongest(t *testing.T) {
	wantPlaced(t, strings.Repeat(" ", 4096), at(stopped(), 4096))
	wantFault(t, strings.Repeat("$", 4096), api.ErrToken, 0)
	wantFault(t, strings.Repeat(" ", 4095)+"$", api.ErrToken, 4095)
	for _, b := range []string{" ", "$", "a", "'", "\"", "9", "("} {
		for _, n := range []int{4097, 4098, 1 << 16} {
			wantFault(t, strings.Repeat(b, n), api.ErrLong, 4096)
		}
	}
	if n := len(lexed(t, strings.Repeat("(", 4096))); n != 4097 {
		t.Fatalf("4096 brackets have %d tokens", n)
	}
	longText := strings.Repeat("''", 2047)
	wantTokens(t, "'"+longText+"'", text(strings.Repeat("'", 2047)))
}

// P7.3: each kind's own text.
func TestPrint(t *testing.T) {
	texts := []string{"#(", "(", ")", "[", "]", "|", ":", ":=", "^", ".", ";"}
	for i, s := range texts {
		wantPrint(t, s, stopped(mark(api.TokHash+i))...)
		wantPrint(t, s+" x "+s, stopped(mark(api.TokHash+i), named("x"), mark(api.TokHash+i))...)
	}
	wantPrint(t, "", stopped()...)
	wantPrint(t, "a B3 self", stopped(named("a"), named("B3"), named("self"))...)
	wantPrint(t, "a: B3: nil:", stopped(keyword("a"), keyword("B3"), keyword("nil"))...)
	wantPrint(t, "+ - <=", stopped(operator("+"), operator("-"), operator("<="))...)
	wantPrint(t, "0 7 1073741824", stopped(number(0), number(7), number(1<<30))...)
	wantPrint(t, "#a #a: #A:b9: #- #//", stopped(symbol("a"), symbol("a:"), symbol("A:b9:"), symbol("-"), symbol("//"))...)
	wantPrint(t, "'' '''' 'a''''b' '\x00\xff\"'", stopped(text(""), text("'"), text("a''b"), text("\x00\xff\""))...)
	for _, place := range []int{math.MinInt, -1, 1, math.MaxInt} {
		wantPrint(t, "x 3", at(stopped(named("x"), number(3)), place, place, place)...)
	}
	long := strings.Repeat("y", 1<<17)
	wantPrint(t, long, stopped(named(long))...)
	wantPrint(t, "#"+long+":"+long+": '"+long+"'", stopped(symbol(long+":"+long+":"), text(long))...)
	many := make([]api.Token, 5000)
	for i := range many {
		many[i] = mark(api.TokDot)
	}
	wantPrint(t, strings.Repeat(". ", 4999)+".", stopped(many...)...)
}

// P7.3: where TokStop may stand.
func TestPrintWantsOneStop(t *testing.T) {
	stop := mark(api.TokStop)
	wantNoPrint(t, named("x"))
	wantNoPrint(t, stop, stop)
	wantNoPrint(t, stop, named("x"))
	wantNoPrint(t, stop, named("x"), stop)
	wantNoPrint(t, named("x"), stop, stop)
	for _, none := range [][]api.Token{nil, {}, make([]api.Token, 0, 3)} {
		wantNoPrint(t, none...)
	}
}

// P7.3: Kinds, Texts and Numbers that no token has.
func TestPrintRefuses(t *testing.T) {
	for _, kind := range []int{math.MinInt, -1, 0, 19, 20, math.MaxInt} {
		wantNoPrint(t, stopped(mark(kind))...)
		wantNoPrint(t, stopped(named("x"), mark(kind))...)
		wantNoPrint(t, mark(kind))
	}
	for _, s := range noNames() {
		wantNoPrint(t, stopped(named(s))...)
		wantNoPrint(t, stopped(keyword(s))...)
	}
	for _, s := range []string{"", "a", "+-", "-+", "--", "+++", "+ ", " +", "+ +", "|", "||", ":", "#+", "+a", "\xff", "("} {
		wantNoPrint(t, stopped(operator(s))...)
	}
	for _, s := range []string{"", ":", "3", "3a", "at:put", "a::", "a::b:", ":a", ":a:", "a:3:", "a:=", "a:=b", "a b", "a: ",
		" a", "+-", "--", "+++", "+:", "a:+", "+a", "#a", "(", "ä", "a\x00", "a:\xff:"} {
		wantNoPrint(t, stopped(symbol(s))...)
	}
	for _, n := range []int{math.MinInt, -1 << 30, -1, 1<<30 + 1, math.MaxInt} {
		wantNoPrint(t, stopped(number(n))...)
	}
}

// P7.3: a Text or a Number where the table tells none, of each kind.
func TestPrintRefusesWhatIsNotTold(t *testing.T) {
	good := []api.Token{named("a"), keyword("a"), operator("+"), number(1), symbol("a"), text("a")}
	for kind := api.TokHash; kind <= api.TokStop; kind++ {
		good = append(good, mark(kind))
	}
	for _, token := range good {
		list := []api.Token{token}
		if token.Kind != api.TokStop {
			list = stopped(token)
		}
		if _, e := lex.Print(list); e != api.OK {
			t.Fatalf("Print(%+v): %d", list, e)
		}
		for _, n := range []int{-1, 1, math.MaxInt} {
			list[0] = token
			list[0].Number = n
			if token.Kind != api.TokInt {
				wantNoPrint(t, list...)
			}
		}
		list[0] = token
		list[0].Text = "x"
		if token.Kind >= api.TokHash || token.Kind == api.TokInt {
			wantNoPrint(t, list...)
		}
	}
}

// P7.4: what is a selector, and what is none.
func TestSelector(t *testing.T) {
	for _, letter := range letters {
		want, wantKeyword, wantE := 0, 1, api.OK
		if letter < 'a' {
			wantKeyword, wantE = 0, api.ErrArg
		}
		wantSelector(t, string(letter), want, wantE)
		wantSelector(t, string(letter)+"X9", want, wantE)
		wantSelector(t, string(letter)+":", wantKeyword, wantE)
	}
	for _, s := range reserved() {
		wantSelector(t, s, 0, api.ErrArg)
		wantSelector(t, s+"x", 0, api.OK)
		wantSelector(t, s+":", 1, api.OK)
		wantSelector(t, "a:"+s+":", 2, api.OK)
	}
	for n := 1; n < 300; n += 7 {
		wantSelector(t, strings.Repeat("aB3:", n), n, api.OK)
		wantSelector(t, strings.Repeat("a:", n)+"a", 0, api.ErrArg)
	}
	for _, a := range operatorBytes {
		wantSelector(t, string(a), 1, api.OK)
		wantSelector(t, string(a)+":", 0, api.ErrArg)
		wantSelector(t, string(a)+"x", 0, api.ErrArg)
		for _, b := range operatorBytes {
			if a == '-' || b == '-' {
				wantSelector(t, string(a)+string(b), 0, api.ErrArg)
				continue
			}
			wantSelector(t, string(a)+string(b), 1, api.OK)
			wantSelector(t, string(a)+string(b)+"+", 0, api.ErrArg)
		}
	}
	for _, s := range noNames() {
		if s == "a:" || s == "+" {
			continue
		}
		wantSelector(t, s, 0, api.ErrArg)
		wantSelector(t, s+":", 0, api.ErrArg)
	}
	for _, s := range []string{"a::", ":a", ":a:", "a:=", "a:=:", "a:b:=", "a: b:", "a:B:", "A:b:", "a:3:", "a:+", "a:b", "|", "||", "#a", "(", "a:\x00:", "\xff"} {
		wantSelector(t, s, 0, api.ErrArg)
	}
	long := strings.Repeat("z", 1<<17)
	wantSelector(t, long, 0, api.OK)
	wantSelector(t, long+":"+long+":", 2, api.OK)
}

// P7.5: what may name a variable.
func TestVariable(t *testing.T) {
	for _, letter := range letters {
		wantVariable(t, string(letter), api.OK)
		wantVariable(t, string(letter)+"0z", api.OK)
	}
	for _, s := range reserved() {
		wantVariable(t, s, api.ErrReserved)
		wantVariable(t, strings.ToUpper(s[:1])+s[1:], api.OK)
		wantVariable(t, s+"1", api.OK)
		wantVariable(t, s[1:], api.OK)
		wantVariable(t, s+" ", api.ErrArg)
		wantVariable(t, s+":", api.ErrArg)
	}
	for _, s := range noNames() {
		wantVariable(t, s, api.ErrArg)
	}
	wantVariable(t, strings.Repeat("z", 1<<17), api.OK)
}

// P7.1: what is handed in stays as it is, the room behind it too.
func TestPrintLeavesItsList(t *testing.T) {
	room := append(stopped(text("it's"), named("x")), named("spare"), number(-7))
	room[0].At = 9
	as := slices.Clone(room)
	lex.Print(room[:3])
	lex.Print(room[:2])
	lex.Print(room)
	if !slices.Equal(room, as) {
		t.Fatalf("Print left %+v of %+v", room, as)
	}
}

// P7.1: each answer is memory of its own.
func TestAnswersAreNew(t *testing.T) {
	source := "at: x put: #a:b: 'y' +"
	first, second := lexed(t, source), lexed(t, source)
	as := slices.Clone(second)
	whole := first[:cap(first)]
	for i := range whole {
		whole[i] = api.Token{Kind: -1, Text: "?", Number: -1, At: -1}
	}
	if !slices.Equal(second, as) || !slices.Equal(lexed(t, source), as) {
		t.Fatal("two answers share a list")
	}
	from := uintptr(unsafe.Pointer(unsafe.StringData(source)))
	for _, token := range second {
		at := uintptr(unsafe.Pointer(unsafe.StringData(token.Text)))
		if token.Text != "" && at >= from && at < from+uintptr(len(source)) {
			t.Fatalf("%+v holds the source", token)
		}
	}
}
