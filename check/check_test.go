package check_test

import (
	"math"
	"slices"
	"strings"
	"testing"

	"kiln/api"
	"kiln/check"
)

// bounds are those of the chapter's examples.
var bounds = api.Bounds{Fields: 2, Classes: 15, Globals: 1, Symbols: 3}

func join(lists ...[]int) []int { return slices.Concat(lists...) }

func words(w ...int) []int { return w }

func times(n int, w ...int) []int { return slices.Repeat(w, n) }

// block is the code of a block with this body.
func block(params, slots int, body ...int) []int {
	return join([]int{19, params, slots, len(body)}, body)
}

// stacked is a code without arguments, slots and literals.
func stacked(stack int, w ...int) api.Code { return api.Code{Stack: stack, Words: w} }

func want(t *testing.T, e api.Errno, c api.Code, b api.Bounds) {
	t.Helper()
	list, f := check.Depths(c, b)
	if g := check.Check(c, b); g != e || f != e {
		t.Fatalf("%.400v: Check %d, Depths %d, want %d", c, g, f, e)
	}
	if e != api.OK && list != nil || e == api.OK && len(list) != len(c.Words) {
		t.Fatalf("%.400v: %d depths beside %d", c, len(list), e)
	}
}

func wantCode(t *testing.T, e api.Errno, c api.Code) {
	t.Helper()
	want(t, e, c, bounds)
}

// wantWords is of a code with the Stack 1.
func wantWords(t *testing.T, e api.Errno, w ...int) {
	t.Helper()
	wantCode(t, e, stacked(1, w...))
}

func wantStack(t *testing.T, e api.Errno, stack int, w ...int) {
	t.Helper()
	wantCode(t, e, stacked(stack, w...))
}

// wantSlots is of a code whose method has so many slots.
func wantSlots(t *testing.T, e api.Errno, slots, stack int, w ...int) {
	t.Helper()
	wantCode(t, e, api.Code{Temps: slots, Stack: stack, Words: w})
}

func wantDepths(t *testing.T, c api.Code, depths ...int) {
	t.Helper()
	got, e := check.Depths(c, bounds)
	if e != api.OK || !slices.Equal(got, depths) {
		t.Fatalf("%v: %v, %d, want %v", c, got, e, depths)
	}
}

// The chapter's examples, in its order.
func TestExamples(t *testing.T) {
	wantWords(t, api.OK, 1, 20)
	wantDepths(t, stacked(1, 1, 20), 0, 1)
	wantWords(t, api.ErrEnd)
	wantWords(t, api.ErrEnd, 1)
	wantStack(t, api.ErrStack, 2, 1, 20)
	wantStack(t, api.ErrStack, 0, 1, 20)
	wantWords(t, api.ErrStack, 20)

	wantWords(t, api.ErrOpcode, 0, 20)
	wantWords(t, api.ErrOpcode, 29, 20)
	wantWords(t, api.ErrOpcode, 5)
	wantWords(t, api.ErrOpcode, 22)
	wantWords(t, api.ErrOpcode, 21)
	wantWords(t, api.ErrOpcode, 19, 0, 0, 2, 1, 20, 20)

	wantWords(t, api.OK, 9, 1, 20)
	wantWords(t, api.ErrOperand, 9, 2, 20)
	wantWords(t, api.OK, 8, 15, 20)
	wantWords(t, api.ErrOperand, 8, 0, 20)
	wantWords(t, api.ErrOperand, 8, 16, 20)
	wantWords(t, api.ErrOperand, 7, 3, 20)
	wantWords(t, api.ErrOperand, 11, 1, 20)
	wantWords(t, api.ErrOperand, 6, 0, 20)
	wantWords(t, api.ErrOperand, 10, 0, 0, 20)
	wantWords(t, api.ErrOperand, 17, 0, 9, 20)

	wantWords(t, api.OK, 1, 17, 2, 0, 20)
	wantWords(t, api.ErrStack, 17, 2, 0, 20)
	wantWords(t, api.ErrStack, 1, 17, 2, 1, 20)

	wantWords(t, api.OK, 23, 0, 1, 20)
	wantWords(t, api.ErrStack, 23, 1, 1, 20)
	wantWords(t, api.ErrJump, 23, 2, 1, 20)
	wantWords(t, api.ErrJump, 23, -2, 1, 20)
	wantWords(t, api.ErrJump, 23, 1, 5, 1, 20)

	wantWords(t, api.ErrStack, 3, 25, 1, 2, 1, 20)

	wantWords(t, api.OK, 2, 15, 26, 4)
	wantDepths(t, stacked(1, 2, 15, 26, 4), 0, 1, 0, -1)
	wantWords(t, api.ErrJump, 26, 0)
	wantWords(t, api.ErrJump, 26, 2)

	wantWords(t, api.OK, 19, 0, 0, 2, 2, 22, 20)
	wantDepths(t, stacked(1, 19, 0, 0, 2, 2, 22, 20), 0, -1, -1, -1, 0, 1, 1)
	wantWords(t, api.ErrOperand, 19, 0, 0, 0, 20)
	wantWords(t, api.ErrOpcode, 19, 0, 0, 9, 2, 22, 20)
	wantWords(t, api.ErrOperand, 19, 1, 0, 2, 2, 22, 20)

	wantWords(t, api.ErrOpcode, 1, 20, 0)
	wantWords(t, api.OK, 1, 20, 1)

	wantSlots(t, api.OK, 3, 2, 5, 1, 5, 3, 27, 2, 5, 2, 15, 28, 2, 5, 2, 20)
	wantSlots(t, api.ErrJump, 3, 2, 5, 1, 5, 3, 27, 2, 5, 2, 15, 28, 2, 6, 2, 20)
	wantSlots(t, api.ErrOperand, 2, 2, 5, 1, 5, 3, 27, 2, 5, 2, 15, 28, 2, 5, 2, 20)
	wantSlots(t, api.ErrStack, 3, 3, 5, 1, 5, 3, 27, 2, 5, 2, 15, 28, 2, 5, 2, 20)
}

// P11.1, 1: words and literals are counted first.
func TestLong(t *testing.T) {
	wantCode(t, api.OK, stacked(1, join(words(1, 20), times(4094, 1))...))
	wantCode(t, api.ErrLong, stacked(1, join(words(1, 20), times(4095, 1))...))
	text := []api.Lit{{Kind: api.LitText}}
	full := api.Code{Stack: 1, Literals: slices.Repeat(text, 64), Words: words(6, 63, 20)}
	wantCode(t, api.OK, full)
	full.Literals = slices.Repeat(text, 65)
	wantCode(t, api.ErrLong, full)
	wantCode(t, api.ErrLong, api.Code{Args: -1, Literals: make([]api.Lit, 65)})
	wantCode(t, api.ErrLong, api.Code{Stack: -1, Literals: make([]api.Lit, 1), Words: make([]int, 4097)})
}

// P11.1, 2: Args, Temps and Stack.
func TestCounts(t *testing.T) {
	counted := func(args, temps, stack int) api.Code {
		return api.Code{Args: args, Temps: temps, Stack: stack, Words: words(1, 20)}
	}
	for _, c := range [][2]int{{0, 0}, {0, 32}, {8, 8}, {8, 32}, {3, 3}, {3, 4}} {
		wantCode(t, api.OK, counted(c[0], c[1], 1))
	}
	least, most := math.MinInt, math.MaxInt
	for _, c := range [][2]int{{-1, 0}, {-1, -1}, {9, 9}, {9, 32}, {3, 2}, {0, -1}, {0, 33}, {8, 33}, {least, 0}, {most, most}, {0, least}, {0, most}, {most, 0}} {
		wantCode(t, api.ErrOperand, counted(c[0], c[1], 1))
	}
	for _, stack := range []int{-1, 257, least, most} {
		wantCode(t, api.ErrOperand, counted(0, 0, stack))
	}
	for _, stack := range []int{0, 2, 256} {
		wantCode(t, api.ErrStack, counted(0, 0, stack))
	}
	// It goes ahead of what the words are.
	wantCode(t, api.ErrOperand, api.Code{Args: 9, Temps: 9, Words: words(0)})
}

func array(items ...api.Lit) api.Lit { return api.Lit{Kind: api.LitArray, Items: items} }

func number(n int) api.Lit { return api.Lit{Kind: api.LitInt, Number: n} }

func text(n int) api.Lit { return api.Lit{Kind: api.LitText, Text: strings.Repeat("t", n)} }

func symbolic(n int) api.Lit { return api.Lit{Kind: api.LitSymbol, Number: n} }

func null() api.Lit { return api.Lit{Kind: api.LitNil} }

func wantLiterals(t *testing.T, e api.Errno, list ...api.Lit) {
	t.Helper()
	wantCode(t, e, api.Code{Stack: 1, Literals: list, Words: words(1, 20)})
}

// P11.1, 3: which literals may stand at the top, and which in an array.
func TestLiterals(t *testing.T) {
	objects := []api.Lit{text(0), text(256), array(), array(slices.Repeat([]api.Lit{null()}, 32)...)}
	elements := []api.Lit{number(0), number(-1 << 30), number(1<<30 - 1), symbolic(0), symbolic(2), null(), {Kind: api.LitTrue}, {Kind: api.LitFalse}}
	wrong := []api.Lit{{}, {Kind: -1}, {Kind: 8}, {Kind: math.MinInt}, {Kind: math.MaxInt}, number(-1<<30 - 1), number(1 << 30), number(math.MinInt), number(math.MaxInt), symbolic(-1), symbolic(3), symbolic(math.MaxInt), symbolic(math.MinInt), text(257), array(slices.Repeat([]api.Lit{null()}, 33)...)}
	for _, l := range objects {
		wantLiterals(t, api.OK, l)
		wantLiterals(t, api.OK, text(1), l, array(l), array(null(), array(array(l))))
	}
	for _, l := range elements {
		wantLiterals(t, api.ErrOperand, l)
		wantLiterals(t, api.ErrOperand, array(), l)
		wantLiterals(t, api.OK, array(l), array(null(), array(array(l))))
	}
	for _, l := range wrong {
		wantLiterals(t, api.ErrOperand, l)
		wantLiterals(t, api.ErrOperand, array(), l)
		wantLiterals(t, api.ErrOperand, array(null(), l))
		wantLiterals(t, api.ErrOperand, array(array(null()), array(array(null(), l), null())))
	}
}

// P11.1, 3: of a literal only what its kind names is looked at.
func TestLiteralsNotLookedAt(t *testing.T) {
	junk := func(kind int) api.Lit {
		return api.Lit{Kind: kind, Text: strings.Repeat("t", 999), Number: math.MinInt, Items: make([]api.Lit, 99)}
	}
	textual, arrayed, whole, named := junk(api.LitText), junk(api.LitArray), junk(api.LitInt), junk(api.LitSymbol)
	textual.Text, arrayed.Items, whole.Number, named.Number = "t", nil, 5, 1
	elements := []api.Lit{textual, arrayed, whole, named, junk(api.LitNil), junk(api.LitTrue), junk(api.LitFalse)}
	wantLiterals(t, api.OK, textual, arrayed, array(elements...))
}

// row is an array of so many elements, all of them the same.
func row(n int, l api.Lit) api.Lit { return array(slices.Repeat([]api.Lit{l}, n)...) }

// crowd are literals with so many elements in all.
func crowd(elements int) []api.Lit {
	var list []api.Lit
	for elements >= 32*33 {
		list = append(list, row(32, row(32, null())))
		elements -= 32 * 33
	}
	for elements > 0 {
		n := min(elements, 32)
		list = append(list, row(n, null()))
		elements -= n
	}
	return list
}

// P11.1, 3: an element more than MaxCode is told behind what it may be, and ahead
// of what is in it.
func TestManyElements(t *testing.T) {
	full := crowd(4096)
	wantLiterals(t, api.OK, full...)
	wantLiterals(t, api.OK, append(full, text(9), array())...)
	wantLiterals(t, api.ErrLong, crowd(4097)...)
	more := func(l ...api.Lit) []api.Lit { return append(slices.Clone(full), l...) }
	wantLiterals(t, api.ErrLong, more(array(null()))...)
	wantLiterals(t, api.ErrLong, more(array(array(api.Lit{})))...)
	wantLiterals(t, api.ErrLong, more(array(null(), api.Lit{}))...)
	wantLiterals(t, api.ErrLong, more(array(null()), api.Lit{})...)
	wantLiterals(t, api.ErrOperand, more(array(api.Lit{}))...)
	wantLiterals(t, api.ErrOperand, more(array(text(257)))...)
	wantLiterals(t, api.ErrOperand, more(array(row(33, null())))...)
	wantLiterals(t, api.ErrOperand, more(row(33, null()))...)
	wantLiterals(t, api.ErrOperand, more(null(), array(null()))...)
	wantLiterals(t, api.ErrOperand, append([]api.Lit{{}}, crowd(4097)...)...)
	// An array is an element, and what it has within is counted behind it.
	wantLiterals(t, api.OK, append(crowd(4094), array(array(null())))...)
	wantLiterals(t, api.ErrLong, append(crowd(4094), array(array(null(), null())))...)
	wantLiterals(t, api.ErrLong, append(crowd(4094), array(array(null()), null()))...)
}

// P11.1, 3; P11.5: arrays nested deeply, and one that holds itself.
func TestNestedArrays(t *testing.T) {
	deep := array()
	for range 4096 {
		deep = array(deep)
	}
	wantLiterals(t, api.OK, deep)
	wantLiterals(t, api.ErrLong, array(deep))
	for range 60000 {
		deep = array(deep)
	}
	wantLiterals(t, api.ErrLong, deep)
	self := []api.Lit{null(), {Kind: api.LitArray}}
	self[1].Items = self
	wantLiteralsEnd(t, self[1])
	wide := make([]api.Lit, 32)
	for i := range wide {
		wide[i] = array(wide...)
		wide[i].Items = wide
	}
	wantLiteralsEnd(t, wide[0])
}

// wantLiteralsEnd is of one that cannot be told.
func wantLiteralsEnd(t *testing.T, l api.Lit) {
	t.Helper()
	c := api.Code{Stack: 1, Literals: []api.Lit{l}, Words: words(1, 20)}
	if e := check.Check(c, bounds); e != api.ErrLong {
		t.Fatalf("an array within itself: %d", e)
	}
}

// whole are instructions, each one as it may be, for a method with a slot and a literal.
var whole = [][]int{
	{1}, {2}, {3}, {4}, {5, 7}, {6, 0}, {7, 2}, {8, 1}, {9, 1}, {10, 0, 0}, {11, 0}, {12, 0}, {13, 0, 0}, {14, 0}, {15}, {16},
	{17, 1, 0}, {18, 1, 0}, {19, 0, 0, 2, 2, 22}, {20}, {23, 0}, {24, 0}, {25, 0}, {26, 3}, {27, 0, 0}, {28, 0, 4},
}

// offered is a method with one slot and one literal.
func offered(w ...int) api.Code {
	return api.Code{Temps: 1, Stack: 1, Literals: []api.Lit{text(3)}, Words: w}
}

// P11.1, 4: the number of an operation, come to or not.
func TestOpcodes(t *testing.T) {
	for _, op := range []int{0, -1, 29, 30, 100, math.MinInt, math.MaxInt, math.MinInt + 1, 1 << 32, 1<<32 + 1, 256 + 1} {
		wantWords(t, api.ErrOpcode, op)
		wantWords(t, api.ErrOpcode, op, 20)
		wantWords(t, api.ErrOpcode, 1, 20, op)
		wantWords(t, api.ErrOpcode, 1, 20, op, 1, 1, 1)
		wantWords(t, api.ErrOpcode, join(block(0, 0, 2, 22, op), words(20))...)
	}
	for _, w := range whole {
		wantCode(t, api.OK, offered(join(words(1, 20, 1), w, words(1))...))
	}
}

// P11.1, 4: an instruction that is cut off, by the end of the method or of a block.
func TestCutOff(t *testing.T) {
	for _, w := range whole {
		for n := 1; n < len(w); n++ {
			if w[0] == api.OpBlock && n > 4 {
				continue
			}
			wantCode(t, api.ErrOpcode, offered(w[:n]...))
			wantCode(t, api.ErrOpcode, offered(join(words(1, 20), w[:n])...))
			wantCode(t, api.ErrOpcode, offered(join(block(0, 1, join(words(2, 22), w[:n])...), words(20, 1, 1, 1, 1, 1))...))
		}
	}
	// The body of a block ends where that of the block around it does, at the latest.
	wantWords(t, api.OK, join(block(0, 0, join(block(0, 0, 2, 22), words(22))...), words(20))...)
	wantWords(t, api.ErrEnd, join(block(0, 0, block(0, 0, 2, 22)...), words(20))...)
	wantWords(t, api.ErrOpcode, 19, 0, 0, 6, 19, 0, 0, 3, 2, 22, 22, 20)
	wantWords(t, api.ErrOpcode, 19, 0, 0, 3, 2, 22)
	wantWords(t, api.ErrOpcode, 19, 0, 0, math.MaxInt, 2, 22, 20)
	wantWords(t, api.ErrOpcode, 1, 20, 19, 0, 0, math.MaxInt)
	wantWords(t, api.ErrOpcode, 1, 20, 19, 0, 0, 1)
}

// P11.1, 4: which returns stand in the method, and which in a block.
func TestReturns(t *testing.T) {
	wantWords(t, api.ErrOpcode, 1, 21)
	wantWords(t, api.ErrOpcode, 1, 22)
	wantWords(t, api.ErrOpcode, 1, 20, 21)
	wantWords(t, api.ErrOpcode, 1, 20, 22)
	for _, op := range []int{21, 22} {
		wantWords(t, api.OK, join(block(0, 0, 2, op), words(20))...)
		wantWords(t, api.OK, join(block(0, 0, join(block(0, 0, 2, op), words(22))...), words(20))...)
	}
	wantWords(t, api.ErrOpcode, join(block(0, 0, 2, 22, 20), words(20))...)
	wantWords(t, api.ErrOpcode, join(block(0, 0, join(block(0, 0, 2, 20), words(22))...), words(20))...)
	wantWords(t, api.ErrOpcode, join(block(0, 0, 2, 22), words(22))...)
}

// P11.1, 4: the ranges of operands that do not hang on one another.
func TestOperands(t *testing.T) {
	ranges := []struct {
		least, most int
		ahead       []int // of the operand
		behind      []int
	}{
		{-1 << 30, 1<<30 - 1, words(5), nil},
		{0, 0, words(6), nil},
		{0, 2, words(7), nil},
		{1, 15, words(8), nil},
		{0, 1, words(9), nil},
		{0, 0, words(11), nil},
		{0, 1, words(1, 12), nil},
		{0, 0, words(1, 14), nil},
		{0, 2, words(1, 17), words(0)},
		{0, 2, words(1, 18), words(0)},
		{0, 0, words(10), words(0)},
		{0, 0, words(10, 0), nil},
		{0, 0, words(1, 13), words(0)},
		{0, 0, words(1, 13, 0), nil},
		{0, 8, words(1, 20, 17, 0), words(1)},
		{0, 8, words(1, 20, 18, 0), words(1)},
		{0, 0, words(1, 20, 27), words(0)},
		{0, 0, words(1, 20, 1, 28), words(4)},
		{0, 8, words(1, 20, 19), words(8, 2, 2, 22)},
		{0, 3, words(1, 20, 19), words(3, 2, 2, 22)},
		{0, 32, words(1, 20, 19, 0), words(2, 2, 22)},
		{5, 32, words(1, 20, 19, 5), words(2, 2, 22)},
	}
	for _, r := range ranges {
		code := func(n int) api.Code { return offered(join(r.ahead, words(n), r.behind, words(20))...) }
		wantCode(t, api.OK, code(r.least))
		wantCode(t, api.OK, code(r.most))
		for _, n := range []int{r.least - 1, r.most + 1, math.MinInt, math.MaxInt, r.least - 1<<32, r.most + 1<<32} {
			wantCode(t, api.ErrOperand, code(n))
		}
	}
	for _, n := range []int{0, -1, math.MinInt, math.MinInt + 6} {
		wantWords(t, api.ErrOperand, 19, 0, 0, n, 2, 22, 20)
	}
	// First and Next take as many words to jump as there are: these come later.
	wantCode(t, api.ErrJump, offered(1, 20, 27, 0, math.MinInt, 20))
	wantCode(t, api.ErrOperand, offered(1, 20, 27, 1, math.MinInt, 20))
}

// P11.1: bounds below 0 are as 0; great ones are as they are.
func TestBounds(t *testing.T) {
	things := []struct {
		op, first int
		bounds    func(n int) api.Bounds
	}{
		{api.OpField, 0, func(n int) api.Bounds { return api.Bounds{Fields: n} }},
		{api.OpClass, 1, func(n int) api.Bounds { return api.Bounds{Classes: n} }},
		{api.OpGlobal, 0, func(n int) api.Bounds { return api.Bounds{Globals: n} }},
		{api.OpSym, 0, func(n int) api.Bounds { return api.Bounds{Symbols: n} }},
	}
	for _, x := range things {
		naming := func(i int) api.Code { return stacked(1, x.op, i, 20) }
		for _, count := range []int{1, 7, 1 << 40, math.MaxInt - 1} {
			b, last := x.bounds(count), x.first+count-1
			want(t, api.OK, naming(x.first), b)
			want(t, api.OK, naming(last), b)
			want(t, api.ErrOperand, naming(x.first-1), b)
			want(t, api.ErrOperand, naming(last+1), b)
		}
		for _, count := range []int{math.MinInt, -1, 0} {
			for _, i := range []int{-1, 0, 1, math.MinInt, math.MaxInt} {
				want(t, api.ErrOperand, naming(i), x.bounds(count))
			}
		}
	}
	for _, symbols := range []int{math.MinInt, -1, 0} {
		c := api.Code{Stack: 1, Literals: []api.Lit{array(symbolic(0))}, Words: words(1, 20)}
		want(t, api.ErrOperand, c, api.Bounds{Symbols: symbols})
		c.Literals[0].Items[0].Number = symbols
		want(t, api.ErrOperand, c, api.Bounds{Symbols: symbols})
		want(t, api.ErrOperand, stacked(1, 1, 17, 0, 0, 20), api.Bounds{Symbols: symbols})
	}
	// Each kind of thing is held against its own number.
	want(t, api.OK, stacked(1, 9, 3, 20), api.Bounds{Fields: 4})
	want(t, api.ErrOperand, stacked(1, 9, 0, 20), api.Bounds{Classes: 9, Globals: 9, Symbols: 9})
	want(t, api.ErrOperand, stacked(1, 8, 1, 20), api.Bounds{Fields: 9, Globals: 9, Symbols: 9})
	want(t, api.ErrOperand, stacked(1, 11, 0, 20), api.Bounds{Fields: 9, Classes: 9, Symbols: 9})
	want(t, api.ErrOperand, stacked(1, 7, 0, 20), api.Bounds{Fields: 9, Classes: 9, Globals: 9})
}

// P11.1, 4: slots are those of the scope that is so many blocks outward.
func TestSlots(t *testing.T) {
	sizes := []int{3, 0, 5, 1} // of the method, and of blocks in one another
	inner := func(w ...int) api.Code {
		body := join(w, words(22))
		for i := len(sizes) - 1; i > 0; i-- {
			body = join(block(0, sizes[i], body...), words(22))
		}
		body[len(body)-1] = 20
		return api.Code{Temps: 3, Stack: 1, Words: body}
	}
	for outward := -1; outward <= 5; outward++ {
		for slot := -1; slot <= 6; slot++ {
			e := api.ErrOperand
			if outward >= 0 && outward < len(sizes) && slot >= 0 && slot < sizes[len(sizes)-1-outward] {
				e = api.OK
			}
			wantCode(t, e, inner(10, outward, slot))
			wantCode(t, e, inner(1, 13, outward, slot))
		}
	}
	for _, far := range []int{math.MinInt, math.MaxInt, math.MaxInt - 3, math.MinInt + 3} {
		wantCode(t, api.ErrOperand, inner(10, far, 0))
		wantCode(t, api.ErrOperand, inner(10, 0, far))
	}
	// Of First and Next the scope is the own one.
	for slot := -1; slot <= 3; slot++ {
		e := api.ErrOperand
		if slot == 0 {
			e = api.OK
		}
		wantCode(t, e, inner(1, 22, 27, slot, 0))
		wantCode(t, e, inner(1, 22, 1, 28, slot, 4))
	}
	// Behind a block its slots are no more.
	wantSlots(t, api.ErrOperand, 1, 1, join(block(0, 2, 2, 22), words(15, 10, 0, 1, 20))...)
	wantSlots(t, api.OK, 1, 1, join(block(0, 2, 2, 22), words(15, 10, 0, 0, 20))...)
	wantSlots(t, api.ErrOperand, 1, 1, join(block(0, 2, 2, 22), words(15, 10, 1, 0, 20))...)
	wantSlots(t, api.ErrOperand, 1, 1, join(block(0, 2, 2, 22), words(15), block(0, 1, 10, 0, 1, 22), words(20))...)
}

// nest is a method with so many blocks in one another.
func nest(blocks int) []int {
	body := words(2, 22)
	for range blocks - 1 {
		body = join(block(0, 0, body...), words(22))
	}
	return join(block(0, 0, body...), words(20))
}

// P11.1, 4: blocks in one another, and beside one another.
func TestNesting(t *testing.T) {
	wantWords(t, api.OK, nest(1)...)
	wantWords(t, api.OK, nest(24)...)
	wantWords(t, api.ErrOperand, nest(25)...)
	wantWords(t, api.ErrOperand, nest(700)...)
	wantWords(t, api.OK, join(words(1, 20), nest(24)[:len(nest(24))-1])...)
	wantWords(t, api.ErrOperand, join(words(1, 20), nest(25)[:len(nest(25))-1])...)
	beside := join(block(0, 0, 2, 22), words(15))
	wantWords(t, api.OK, join(times(500, beside...), words(1, 20))...)
	// It is the operand of the block one too deep that is wrong, ahead of its body.
	deep := nest(25)
	deep[4*25] = 0
	wantWords(t, api.ErrOperand, deep...)
	deep = nest(24)
	deep[4*24] = 0
	wantWords(t, api.ErrOpcode, deep...)
	deep = nest(25)
	deep[4*24+3] = 999
	wantWords(t, api.ErrOpcode, deep...)
}

// P11.1, 4: instructions one by one, and of each ErrOpcode ahead of ErrOperand.
func TestOrderOfInstructions(t *testing.T) {
	wantWords(t, api.ErrOperand, 9, 2, 0)
	wantWords(t, api.ErrOpcode, 0, 9, 2)
	wantWords(t, api.ErrOperand, join(block(0, 0, 9, 2, 0), words(0))...)
	wantWords(t, api.ErrOpcode, join(block(0, 0, 0, 9, 2), words(9, 2))...)
	wantWords(t, api.ErrOpcode, join(block(0, 0, 2, 22, 0), words(9, 2))...)
	wantWords(t, api.ErrOperand, join(block(9, 9, 0), words(0))...)
	wantWords(t, api.ErrOperand, 19, 0, 0, 0, 0)
	wantWords(t, api.ErrOpcode, 19, 9, 0, 2, 2)
	wantWords(t, api.ErrOpcode, 19, 9, 0)
	wantWords(t, api.ErrOpcode, 10, 9)
	wantWords(t, api.ErrOperand, 10, 9, 9, 0)
	wantWords(t, api.ErrOperand, join(block(0, 0, 10, 2, 0, 20), words(20))...)
	wantWords(t, api.ErrOpcode, join(block(0, 0, 20, 10, 2, 0), words(20))...)
}
