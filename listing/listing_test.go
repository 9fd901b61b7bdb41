package listing_test

import (
	"fmt"
	"math"
	"reflect"
	"slices"
	"strings"
	"testing"

	"kiln/api"
	"kiln/listing"
)

func lines(l ...string) string { return strings.Join(l, "\n") + "\n" }

// behind is a listing's text with these lines behind the first one.
func behind(l ...string) string { return "code 0 0 0\n" + lines(l...) }

func integer(n int) api.Lit { return api.Lit{Kind: api.LitInt, Number: n} }

func symbolic(n int) api.Lit { return api.Lit{Kind: api.LitSymbol, Number: n} }

func text(s string) api.Lit { return api.Lit{Kind: api.LitText, Text: s} }

func array(items ...api.Lit) api.Lit { return api.Lit{Kind: api.LitArray, Items: items} }

func constant(kind int) api.Lit { return api.Lit{Kind: kind} }

func literals(l ...api.Lit) api.Code { return api.Code{Literals: l} }

func words(w ...int) api.Code { return api.Code{Words: w} }

// plain is a code with nil for each empty list: both mean the same.
func plain(c api.Code) api.Code {
	c.Words = append([]int(nil), c.Words...)
	c.Literals = plainLits(c.Literals)
	return c
}

func plainLits(list []api.Lit) []api.Lit {
	list = append([]api.Lit(nil), list...)
	for i := range list {
		list[i].Items = plainLits(list[i].Items)
	}
	return list
}

// short is what a failed test tells of a code.
func short(c api.Code) string {
	s := fmt.Sprintf("%+v", c)
	return s[:min(len(s), 400)]
}

func same(a, b api.Code) bool { return reflect.DeepEqual(plain(a), plain(b)) }

// wantBoth holds a code and its listing against each other.
func wantBoth(t *testing.T, c api.Code, s string) {
	t.Helper()
	if got, e := listing.Print(c); e != api.OK || got != s {
		t.Fatalf("Print(%s) = %.400q, %d, want %.400q", short(c), got, e, s)
	}
	if got, line, e := listing.Parse(s); e != api.OK || line != 0 || !same(got, c) {
		t.Fatalf("Parse(%.400q) = %s, %d, %d, want %s", s, short(got), line, e, short(c))
	}
}

func wantRefused(t *testing.T, e api.Errno, c api.Code) {
	t.Helper()
	if got, f := listing.Print(c); f != e || got != "" {
		t.Fatalf("Print(%s) = %.400q, %d, want %d", short(c), got, f, e)
	}
}

func wantWrong(t *testing.T, line int, s string) {
	t.Helper()
	got, at, e := listing.Parse(s)
	if e != api.ErrListing || at != line || !reflect.DeepEqual(got, api.Code{}) {
		t.Fatalf("Parse(%.400q) = %s, %d, %d, want line %d", s, short(got), at, e, line)
	}
}

// The chapter's examples, in its order.
func TestExamples(t *testing.T) {
	first := "code 1 2 3\n0 self\n1 return\n"
	wantBoth(t, api.Code{Args: 1, Temps: 2, Stack: 3, Words: []int{1, 20}}, first)
	wantBoth(t, api.Code{Args: 1, Temps: 2, Stack: 3}, "code 1 2 3\n")
	wantBoth(t, words(5, -3, 13, 0, 9, 19, 0, 0, 2, 2, 22),
		behind("0 int -3", "2 storetemp 0 9", "5 block 0 0 2", "9 nil", "10 blockreturn"))
	wantBoth(t, literals(text("it's"), array(integer(1), symbolic(5), text("\n"), constant(api.LitNil), array())),
		behind(`text 'it\'s'`, `array (1 #5 '\x0a' nil ())`))

	wantRefused(t, api.ErrOpcode, words(0))
	wantRefused(t, api.ErrOpcode, words(29))
	wantRefused(t, api.ErrOpcode, words(5))
	wantRefused(t, api.ErrListing, literals(constant(api.LitInt)))
	wantRefused(t, api.ErrListing, literals(api.Lit{Kind: api.LitText, Number: 1}))
	wantRefused(t, api.ErrLong, literals(slices.Repeat([]api.Lit{text("")}, 65)...))

	wantWrong(t, 3, strings.TrimSuffix(first, "\n"))
	for _, third := range []string{"1 return ", "1  return", "01 return", "2 return"} {
		wantWrong(t, 3, lines("code 1 2 3", "0 self", third))
	}
	wantWrong(t, 1, "")
	wantWrong(t, 1, "code 1 2\n")

	for _, second := range []string{"text 'a", `text '\x61'`, `text '\x0A'`, "array (1  2)", "array (01)", "array (-0)", "array 1"} {
		wantWrong(t, 2, behind(second))
	}
	wantWrong(t, 3, behind("0 self", "text 'a'"))
	wantWrong(t, 4, behind("text ''", "0 self", "array ()"))
	wantWrong(t, 2, behind("0 int 9223372036854775808"))
	wantBoth(t, words(5, math.MinInt), behind("0 int -9223372036854775808"))
	wantBoth(t, words(5, math.MaxInt), behind("0 int 9223372036854775807"))
}

// P12.1, P12.2: the names and the operands of all instructions.
func TestOperations(t *testing.T) {
	names := strings.Fields("self nil true false int lit sym class field temp global storefield storetemp storeglobal " +
		"pop dup send super block return homereturn blockreturn jump iftrue iffalse back first next")
	operands := []int{0, 0, 0, 0, 1, 1, 1, 1, 1, 2, 1, 1, 2, 1, 0, 0, 2, 2, 3, 0, 0, 0, 1, 1, 1, 1, 2, 2}
	if len(names) != api.OpNext || len(operands) != api.OpNext {
		t.Fatalf("%d names, %d numbers of operands", len(names), len(operands))
	}
	numbers := []int{math.MinInt, 0, math.MaxInt}
	for i, name := range names {
		w, line := []int{i + 1}, "0 "+name
		for k := range operands[i] {
			wantRefused(t, api.ErrOpcode, words(w...))
			wantWrong(t, 2, behind(line))
			w = append(w, numbers[k])
			line += fmt.Sprint(" ", numbers[k])
		}
		wantBoth(t, words(w...), behind(line))
		wantBoth(t, words(append(w, 16)...), behind(line, fmt.Sprint(len(w), " dup")))
		wantWrong(t, 2, behind(line+" 0"))
		wantWrong(t, 2, behind(line+" "))
		wantWrong(t, 2, behind(strings.ToUpper(line)))
		wantWrong(t, 2, behind("0 "+name+"x"+line[2+len(name):]))
		wantWrong(t, 3, behind("0 dup", line))
	}
}

// P12.1: words that are no whole instructions.
func TestNoInstructions(t *testing.T) {
	for _, w := range [][]int{{0}, {29}, {-1}, {math.MinInt}, {math.MaxInt}, {1, 0}, {5}, {10, 0}, {19, 0, 0}, {1, 19, 0, 0}, {5, 1, 2, 30}, {28}, {28, 0}} {
		wantRefused(t, api.ErrOpcode, words(w...))
	}
	// the words of a block's body are the instructions behind it, whatever it says
	wantBoth(t, words(19, 0, 0, 9, 2, 22, 20), behind("0 block 0 0 9", "4 nil", "5 blockreturn", "6 return"))
	wantBoth(t, words(19, -1, 99, math.MinInt), behind("0 block -1 99 -9223372036854775808"))
	wantBoth(t, words(19, 0, 0, 1, 5, 7), behind("0 block 0 0 1", "4 int 7"))
	wantRefused(t, api.ErrOpcode, words(19, 0, 0, 1, 5))
	// a number of an operation may be an operand
	wantBoth(t, words(5, 29, 5, 0), behind("0 int 29", "2 int 0"))
}

// P12.1, P12.2: Args, Temps and Stack may be any number.
func TestHead(t *testing.T) {
	wantBoth(t, api.Code{}, "code 0 0 0\n")
	wantBoth(t, api.Code{Args: -1, Temps: math.MaxInt, Stack: math.MinInt}, "code -1 9223372036854775807 -9223372036854775808\n")
	wantBoth(t, api.Code{Args: 100, Temps: 10, Stack: -10}, "code 100 10 -10\n")
	for _, head := range []string{
		"", " ", "code", "code ", "code 0", "code 0 0", "code 0 0 ", "code 0 0 0 ", "code 0 0 0 0", "code  0 0 0", "code 0  0 0", " code 0 0 0",
		"Code 0 0 0", "codes 0 0 0", "cod 0 0 0", "code0 0 0", "code\t0 0 0", "code 0 0 0\r", "code 0 0 0x", "code a 0 0", "code 0 0 -0",
		"code 00 0 0", "code 0 +1 0", "code 0 1_0 0", "code 0 0x1 0", "code - 0 0", "code -- 0 0", "code 1-1 0 0", "code 0,0 0", "code 0 0 9223372036854775808",
		"code 0 0 -9223372036854775809", "code 0 0 99999999999999999999999999", "code 0 0 1.0", "code 0 0 1e3", "code 0 0 ٣", "text ''", "0 self",
	} {
		wantWrong(t, 1, head)
		wantWrong(t, 1, head+"\n")
		wantWrong(t, 1, head+"\n0 self\n")
		wantWrong(t, 1, head+"\ncode 0 0 0\n")
	}
	wantWrong(t, 2, behind("code 0 0 0"))
	wantWrong(t, 3, behind("0 self", "code 0 0 0"))
}

// P12.2: a line without a newline behind it is wrong, whatever it says; a newline
// too many begins no line, but a line that is empty is one.
func TestLineEnds(t *testing.T) {
	wantWrong(t, 1, "code 0 0 0")
	wantWrong(t, 2, "code 0 0 0\n0 self")
	wantWrong(t, 2, "code 0 0 0\ntext 'a'")
	wantWrong(t, 2, "code 0 0 0\n0")
	wantWrong(t, 1, "c")
	wantWrong(t, 1, "\n")
	wantWrong(t, 2, "code 0 0 0\n\n")
	wantWrong(t, 2, "code 0 0 0\n\n\n")
	wantWrong(t, 2, "code 0 0 0\n\n0 self\n")
	wantWrong(t, 2, "code 0 0 0\n ")
	wantWrong(t, 2, "code 0 0 0\n0 self\r\n")
	wantWrong(t, 3, "code 0 0 0\n0 self\n\n")
	wantWrong(t, 3, "code 0 0 0\n0 self\n1 self\n3 self"[:len("code 0 0 0\n0 self\n1 s")])
}

// P12.2: of several lines that are wrong the first one is told.
func TestFirstWrong(t *testing.T) {
	wantWrong(t, 1, "code\ntext\n9 self\n")
	wantWrong(t, 2, behind("text", "1 self", "x"))
	wantWrong(t, 3, behind("0 self", "0 self", "0 self"))
	wantWrong(t, 4, behind("text ''", "0 self", "2 self", "text ''")+"x")
}

// P12.1, P12.2: an instruction's line.
func TestInstructionLines(t *testing.T) {
	for _, line := range []string{
		"self", " self", "0self", "0  self", "0\tself", " 0 self", "-0 self", "00 self", "+0 self", "1 self", "-1 self", "0 self ", "0 ", "0", "0 0", "0 1",
		"0 Self", "0 sel", "0 selfs", "0 self self", "0 ", "0  ", "0 self\r", "0 self\x00", "x self", "0 int", "0 int ", "0 int  1", "0 int 1 ", "0 int 1 2",
		"0 int x", "0 int 01", "0 int -0", "0 int -01", "0 int +1", "0 int 1x", "0 int 1-", "0 int -", "0 int #1", "0 int 0x1", "0 int 1_000", "0 int 1.5",
		"0 int 9223372036854775808", "0 int -9223372036854775809", "0 int " + strings.Repeat("9", 5000), "0 int " + strings.Repeat("0", 5000),
		"0 temp 1", "0 temp 1 ", "0 temp 1  2", "0 temp 1 2 3", "0 temp 1,2", "0 block 1 2", "0 block 1 2 3 4", "0 code 0 0 0", "0 text ''",
	} {
		wantWrong(t, 2, behind(line))
		wantWrong(t, 3, behind("text ''", line))
		wantWrong(t, 2, behind(line, "0 self"))
	}
	wantBoth(t, words(5, -10, 5, 10, 5, 0, 5, 907), behind("0 int -10", "2 int 10", "4 int 0", "6 int 907"))
	for _, place := range []string{"0", "1", "2", "4", "-3", "03", "3.", "9223372036854775807", "18446744073709551619"} {
		wantWrong(t, 3, behind("0 temp 1 2", place+" pop"))
	}
	wantBoth(t, words(10, 1, 2, 15), behind("0 temp 1 2", "3 pop"))
}

// P12.1, P12.2: each byte in a text has one way of being written.
func TestBytes(t *testing.T) {
	all := ""
	for c := range 256 {
		one := string([]byte{byte(c)})
		all += one
		written := fmt.Sprintf(`\x%02x`, c)
		switch {
		case c == '\'' || c == '\\':
			written = `\` + one
		case c >= 32 && c <= 126:
			written = one
		}
		wantBoth(t, literals(text(one)), behind("text '"+written+"'"))
		wantBoth(t, literals(array(text(one), text(one))), behind("array ('"+written+"' '"+written+"')"))
		for _, other := range []string{one, `\` + one, fmt.Sprintf(`\x%02x`, c), fmt.Sprintf(`\x%02X`, c), fmt.Sprintf(`\X%02x`, c), fmt.Sprintf(`\%03o`, c), fmt.Sprintf(`\x%x`, c), fmt.Sprintf(`\u%04x`, c)} {
			if other != written {
				wantWrong(t, 2, behind("text '"+other+"'"))
				wantWrong(t, 2, behind("text 'a"+other+"'"))
				wantWrong(t, 2, behind("array ('"+other+"')"))
			}
		}
	}
	if s, e := listing.Print(literals(text(all))); e != api.OK || len(s) != len("code 0 0 0\ntext ''\n")+93+2*2+161*4 {
		t.Fatalf("%d bytes, %d", len(s), e)
	}
	wantBoth(t, literals(text(`it's \ é`)), behind(`text 'it\'s \\ \xc3\xa9'`))
	wantBoth(t, literals(text("\\x41"), text("''"), text("")), behind(`text '\\x41'`, `text '\'\''`, "text ''"))
	wantBoth(t, literals(text("\x0041"), text("\xfff")), behind(`text '\x0041'`, `text '\xfff'`))
}

// P12.2: a text's line.
func TestTextLines(t *testing.T) {
	for _, x := range []string{
		"", " ", "'", "''a", "'a", "a'", "a", "'a'b", "'a' ", " 'a'", "'a''b'", `'\'`, `'\\`, `'\\\'`, `'\x`, `'\x'`, `'\x0`, `'\x0'`, `'\x0g'`, `'\x 0'`, `'\xg0'`,
		`'\n'`, `'\a'`, `'\0'`, `"a"`, "(1)", "()", "('a')", "1", "#1", "nil", "'a\r'", "'\t'", "'a' 'b'", "text ''", "array ()", "array (1)",
	} {
		wantWrong(t, 2, behind("text "+x))
		wantWrong(t, 2, behind("array "+x+"x"))
	}
	for _, line := range []string{"text", "Text 'a'", "texts 'a'", "text\t'a'", "textarray (1)", "text text 'a'", "texttext 'a'", " text 'a'", "string 'a'"} {
		wantWrong(t, 2, behind(line))
	}
	wantWrong(t, 2, "code 0 0 0\ntext 'a\nb'\n")
}

// P12.2: an array's line.
func TestArrayLines(t *testing.T) {
	for _, x := range []string{
		"", " ", "(", ")", "( )", "(()", "())", "()()", "() ()", "() ", " ()", "(1", "1)", "(1 )", "( 1)", "(1  2)", "(1,2)", "(1\t2)", "(1 2))", "((1 2)", "(1)2",
		"(01)", "(-0)", "(+1)", "(--1)", "(1-1)", "(-)", "(1 -)", "(9223372036854775808)", "(-9223372036854775809)", "(1#1)", "(1'a')", "('a'1)", "('a''b')", "(()())", "(1())",
		"(#)", "(# 1)", "(#01)", "(#-0)", "(#+1)", "(#a)", "(##1)", "(#1#2)", "(#9223372036854775808)", "(#'a')", "(#(1))", "#(1)",
		"(nill)", "(ni)", "(n)", "(nil1)", "(nilnil)", "(NIL)", "(Nil)", "(true1)", "(tru)", "(truefalse)", "(fals)", "(falsey)", "(self)", "(x)", "(nil )", "( nil)", "(nil'a')", "(nil(1))",
		"nil", "1", "'a'", "#1", "[1]", "{1}", "(1]", "('a)", `('\x61')`, "(('a)')", "('a' )", "array (1)", "text 'a'", "(1\r)", "(1)\r",
	} {
		wantWrong(t, 2, behind("array "+x))
		wantWrong(t, 3, behind("array ()", "array "+x))
	}
	for _, line := range []string{"array", "array()", "array  ()", "array\t()", "Array ()", "arrays ()", " array ()", "arrayarray ()", "arraytext ''", "array text ''"} {
		wantWrong(t, 2, behind(line))
	}
	wantBoth(t, literals(array(constant(api.LitNil), constant(api.LitTrue), constant(api.LitFalse))), behind("array (nil true false)"))
	wantBoth(t, literals(array(array(), array(array()), array(array(integer(-1)), text(")")))), behind("array (() (()) ((-1) ')'))"))
	wantBoth(t, literals(array(integer(math.MinInt), symbolic(math.MinInt), symbolic(-1), symbolic(math.MaxInt), integer(0))),
		behind("array (-9223372036854775808 #-9223372036854775808 #-1 #9223372036854775807 0)"))
}

// P12.1: which literals may be, by themselves and as elements.
func TestLiteralsThatMayNotBe(t *testing.T) {
	item := []api.Lit{constant(api.LitNil)}
	never := []api.Lit{
		{}, {Kind: -1}, {Kind: 8}, {Kind: math.MinInt}, {Kind: math.MaxInt},
		{Kind: api.LitInt, Text: "t"}, {Kind: api.LitInt, Items: item},
		{Kind: api.LitText, Number: 1}, {Kind: api.LitText, Items: item}, {Kind: api.LitText, Text: "t", Number: -1}, text(strings.Repeat("t", 257)),
		{Kind: api.LitSymbol, Text: "t"}, {Kind: api.LitSymbol, Items: item},
		{Kind: api.LitArray, Text: "t"}, {Kind: api.LitArray, Number: 1}, {Kind: api.LitArray, Number: math.MinInt, Items: item},
		array(slices.Repeat(item, 33)...), array(make([]api.Lit, 33)...), array(array(slices.Repeat(item, 33)...)), array(constant(0)),
		{Kind: api.LitNil, Text: "t"}, {Kind: api.LitNil, Number: 1}, {Kind: api.LitNil, Items: item},
		{Kind: api.LitTrue, Text: "t"}, {Kind: api.LitTrue, Number: 1}, {Kind: api.LitTrue, Items: item},
		{Kind: api.LitFalse, Text: "t"}, {Kind: api.LitFalse, Number: 1}, {Kind: api.LitFalse, Items: item},
	}
	alone := []api.Lit{integer(0), integer(5), symbolic(0), constant(api.LitNil), constant(api.LitTrue), constant(api.LitFalse)}
	for _, l := range slices.Concat(never, alone) {
		wantRefused(t, api.ErrListing, literals(l))
		wantRefused(t, api.ErrListing, literals(text("t"), array(), l, text("t")))
	}
	for _, l := range never {
		wantRefused(t, api.ErrListing, literals(array(l)))
		wantRefused(t, api.ErrListing, literals(text("t"), array(integer(1), array(text("t"), l), integer(1))))
	}
	for _, l := range alone {
		if s, e := listing.Print(literals(array(l))); s == "" || e != api.OK {
			t.Errorf("%+v: %d", l, e)
		}
	}
	// an empty list is one that is not there
	wantBoth(t, literals(api.Lit{Kind: api.LitText, Items: []api.Lit{}}, array(api.Lit{Kind: api.LitInt, Items: item[:0]})), behind("text ''", "array (0)"))
}

// P12.1, P12.2: how long a text may be, and an array.
func TestLongLiterals(t *testing.T) {
	for _, one := range []struct{ byte, written string }{{"t", "t"}, {"'", `\'`}, {"\x00", `\x00`}} {
		for _, n := range []int{api.MaxText - 1, api.MaxText} {
			long, written := strings.Repeat(one.byte, n), "'"+strings.Repeat(one.written, n)+"'"
			wantBoth(t, literals(text(long)), behind("text "+written))
			wantBoth(t, literals(array(text(long))), behind("array ("+written+")"))
		}
		wantRefused(t, api.ErrListing, literals(text(strings.Repeat(one.byte, api.MaxText+1))))
		wantWrong(t, 2, behind("text '"+strings.Repeat(one.written, api.MaxText+1)+"'"))
		wantWrong(t, 2, behind("array ('"+strings.Repeat(one.written, api.MaxText+1)+"')"))
	}
	row := func(n int) string { return "(" + strings.TrimSuffix(strings.Repeat("7 ", n), " ") + ")" }
	sevens := func(n int) api.Lit { return array(slices.Repeat([]api.Lit{integer(7)}, n)...) }
	wantBoth(t, literals(sevens(32), array(sevens(32))), behind("array "+row(32), "array ("+row(32)+")"))
	wantRefused(t, api.ErrListing, literals(sevens(33)))
	wantRefused(t, api.ErrListing, literals(array(sevens(33))))
	wantWrong(t, 2, behind("array "+row(33)))
	wantWrong(t, 3, behind("array "+row(32), "array ("+row(33)+")"))
}

// P12.1, P12.2: how many literals and words there may be.
func TestCounts(t *testing.T) {
	texts := func(n int) []api.Lit { return slices.Repeat([]api.Lit{text("")}, n) }
	textLines := func(n int) []string { return slices.Repeat([]string{"text ''"}, n) }
	wantBoth(t, literals(texts(64)...), behind(textLines(64)...))
	wantRefused(t, api.ErrLong, literals(texts(65)...))
	wantWrong(t, 66, behind(textLines(65)...))
	wantWrong(t, 66, behind(append(textLines(64), "array ()", "0 self")...))
	wantWrong(t, 66, behind(append(textLines(64), "")...))
	full := behind(append(textLines(64), "0 self")...)
	wantBoth(t, api.Code{Literals: texts(64), Words: []int{1}}, full)

	nils, nilLines := slices.Repeat([]int{2}, 4097), make([]string, 4097)
	for i := range nilLines {
		nilLines[i] = fmt.Sprint(i, " nil")
	}
	wantBoth(t, words(nils[:4096]...), behind(nilLines[:4096]...))
	wantRefused(t, api.ErrLong, words(nils...))
	wantWrong(t, 4098, behind(nilLines...))
	wantWrong(t, 4098, behind(append(slices.Clone(nilLines[:4096]), "x")...))
	for operands, op := range []int{2, 9, 10, 19} {
		last := append([]int{op}, make([]int, operands)...)
		line := []string{"nil", "field 0", "temp 0 0", "block 0 0 0"}[operands]
		fits := 4096 - len(last)
		wantBoth(t, words(append(slices.Clone(nils[:fits]), last...)...), behind(append(slices.Clone(nilLines[:fits]), fmt.Sprint(fits, " ", line))...))
		wantRefused(t, api.ErrLong, words(append(slices.Clone(nils[:fits+1]), last...)...))
		wantWrong(t, fits+3, behind(append(slices.Clone(nilLines[:fits+1]), fmt.Sprint(fits+1, " ", line))...))
	}
}

// nested is an array in so many others, each of which has it alone.
func nested(n int) api.Lit {
	l := array()
	for range n {
		l = array(l)
	}
	return l
}

func nestedText(n int) string { return strings.Repeat("(", n+1) + strings.Repeat(")", n+1) }

// P12.1, P12.2: how many elements there may be in all arrays together.
func TestElements(t *testing.T) {
	row := array(slices.Repeat([]api.Lit{constant(api.LitTrue)}, 31)...)
	rowText := "(" + strings.TrimSuffix(strings.Repeat("true ", 31), " ") + ")"
	rows := array(slices.Repeat([]api.Lit{row}, 32)...) // 1024 elements
	rowsText := "(" + strings.TrimSuffix(strings.Repeat(rowText+" ", 32), " ") + ")"
	all, allLines := slices.Repeat([]api.Lit{rows}, 4), slices.Repeat([]string{"array " + rowsText}, 4)
	wantBoth(t, literals(all...), behind(allLines...))
	wantBoth(t, literals(append(all, array(), text(""))...), behind(append(allLines, "array ()", "text ''")...))
	wantRefused(t, api.ErrLong, literals(append(all, array(integer(1)))...))
	wantRefused(t, api.ErrLong, literals(append(all, array(), text(""), array(array()), constant(0))...))
	wantWrong(t, 6, behind(append(allLines, "array (1)")...))
	wantWrong(t, 8, behind(append(allLines, "array ()", "text ''", "array (())")...))

	for _, n := range []int{1, 4095, 4096} {
		wantBoth(t, literals(nested(n)), behind("array "+nestedText(n)))
	}
	for _, n := range []int{4097, 4098, 9000} {
		wantRefused(t, api.ErrLong, literals(nested(n)))
		wantWrong(t, 2, behind("array "+nestedText(n)))
	}
	wantWrong(t, 2, behind("array "+strings.Repeat("(", 1<<20)))
	wantWrong(t, 2, behind("array ("+strings.Repeat("() ", 1<<20)))
}

// P12.1: of what is wrong the first that is met is told.
func TestOrder(t *testing.T) {
	bad, wide := constant(0), array(make([]api.Lit, 33)...)
	long := api.Code{Literals: []api.Lit{bad}, Words: make([]int, 4097)}
	wantRefused(t, api.ErrLong, long)
	long.Words = []int{0}
	wantRefused(t, api.ErrListing, long)
	long.Literals = make([]api.Lit, 65)
	wantRefused(t, api.ErrLong, long)
	long.Literals = []api.Lit{nested(4097)}
	wantRefused(t, api.ErrLong, long)
	long.Literals = []api.Lit{nested(4096)}
	wantRefused(t, api.ErrOpcode, long)

	wantRefused(t, api.ErrListing, literals(bad, nested(4097)))
	wantRefused(t, api.ErrLong, literals(nested(4097), bad))
	wantRefused(t, api.ErrListing, literals(nested(4096), bad, array(integer(1))))
	wantRefused(t, api.ErrLong, literals(nested(4096), array(integer(1)), bad))
	wantRefused(t, api.ErrListing, literals(nested(4096), wide))
	wantRefused(t, api.ErrListing, literals(array(bad, nested(4096))))
	wantRefused(t, api.ErrListing, literals(array(nested(4095), bad)))
	wantRefused(t, api.ErrLong, literals(array(nested(4096), bad)))
	wantRefused(t, api.ErrLong, literals(nested(4095), array(integer(1), integer(2), bad)))
	wantRefused(t, api.ErrListing, literals(nested(4095), array(integer(1), wide, bad)))
	// an element that may not be and is one too many: what the chapter names first
	wantRefused(t, api.ErrListing, literals(nested(4096), array(bad)))
	wantRefused(t, api.ErrListing, literals(nested(4096), array(wide)))
}

// P12.4: a list of elements that holds itself.
func TestHoldsItself(t *testing.T) {
	for _, n := range []int{1, 2, 32} {
		items := make([]api.Lit, n)
		for i := range items {
			items[i] = array(items...)
		}
		wantRefused(t, api.ErrLong, literals(text(""), array(items...)))
		items[n-1] = api.Lit{Kind: api.LitArray, Items: items}
		items[0] = api.Lit{Kind: api.LitArray, Items: items}
		wantRefused(t, api.ErrLong, literals(array(items...)))
	}
	items := make([]api.Lit, 33)
	items[0] = api.Lit{Kind: api.LitArray, Items: items}
	wantRefused(t, api.ErrListing, literals(array(items...)))
	wantRefused(t, api.ErrListing, literals(array(items[:1]...)))
}
