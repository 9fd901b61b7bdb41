package check_test

import (
	"math"
	"math/rand"
	"slices"
	"testing"

	"kiln/api"
	"kiln/check"
)

// grower grows codes that are to be taken: it knows how deep the stack is, and
// leads jumps only to where it is as deep.
type grower struct {
	*rand.Rand
	code    api.Code
	bounds  api.Bounds
	scopes  []int
	deepest int
}

// landing is a jump on whose place is not yet known.
type landing struct {
	operand int // the place of its last operand, relative to the body
	depth   int
	live    bool
}

// growing is a body that is grown.
type growing struct {
	words    []int
	depth    int
	live     bool        // whether the next instruction is come to
	heads    map[int]int // the places that are come to, with their depths
	landings []landing
}

func (g *grower) put(b *growing, change, op int, operands ...int) {
	if b.live {
		b.heads[len(b.words)] = b.depth
	}
	b.words = append(append(b.words, op), operands...)
	b.depth = max(b.depth+change, 0)
	if b.live {
		g.deepest = max(g.deepest, b.depth)
	}
}

// land lets a jump lead to the next instruction.
func (b *growing) land(i int) {
	l := b.landings[i]
	b.landings = slices.Delete(b.landings, i, i+1)
	b.words[l.operand] = len(b.words) - l.operand - 1
	if l.live {
		b.live, b.depth = true, l.depth
	}
}

// landSome lands jumps that may lead to where the body is grown.
func (g *grower) landSome(b *growing, all bool) {
	for i := len(b.landings) - 1; i >= 0; i-- {
		l := b.landings[i]
		fits := !l.live || !b.live || l.depth == b.depth
		if fits && (all || g.Intn(3) == 0) {
			b.land(i)
		}
	}
}

// body grows a body, whose first instruction is come to if it is live.
func (g *grower) body(size int, live bool) []int {
	b := &growing{live: live, heads: map[int]int{}}
	for len(b.words) < size {
		g.landSome(b, false)
		g.instruction(b)
	}
	for len(b.landings) > 0 || b.live || len(b.words) == 0 {
		if b.live {
			g.finish(b)
		}
		g.landSome(b, true)
		if !b.live {
			g.finish(b)
		}
	}
	return b.words
}

// finish returns from the body.
func (g *grower) finish(b *growing) {
	if b.depth == 0 {
		g.put(b, 1, api.OpNil)
	}
	op := api.OpReturn
	if len(g.scopes) > 1 {
		op = api.OpHomeReturn + g.Intn(2)
	}
	g.put(b, -1, op)
	b.live = false
}

func (g *grower) instruction(b *growing) {
	switch k := g.Intn(14); {
	case k < 4:
		g.push(b)
	case k < 5:
		g.push(b)
		g.store(b)
	case k < 7 && b.depth > 0:
		g.put(b, -1, api.OpPop)
	case k < 8 && b.depth > 0:
		g.put(b, 1, api.OpDup)
	case k < 10 && b.depth > 0:
		n := g.Intn(min(b.depth, 9))
		g.put(b, -n, api.OpSend+g.Intn(2), g.Intn(g.bounds.Symbols), n)
	case k < 11 && len(g.scopes) < 5:
		g.block(b)
	case k < 13:
		g.jump(b)
	case g.Intn(4) == 0 && b.live:
		g.finish(b)
	}
}

func (g *grower) push(b *growing) {
	outward := g.Intn(len(g.scopes))
	slots := g.scopes[len(g.scopes)-1-outward]
	switch k := g.Intn(8); {
	case k == 0:
		g.put(b, 1, api.OpInt, g.Intn(1<<31)-1<<30)
	case k == 1 && len(g.code.Literals) > 0:
		g.put(b, 1, api.OpLit, g.Intn(len(g.code.Literals)))
	case k == 2:
		g.put(b, 1, api.OpSym, g.Intn(g.bounds.Symbols))
	case k == 3:
		g.put(b, 1, api.OpClass, 1+g.Intn(g.bounds.Classes))
	case k == 4:
		g.put(b, 1, api.OpField, g.Intn(g.bounds.Fields))
	case k == 5 && slots > 0:
		g.put(b, 1, api.OpTemp, outward, g.Intn(slots))
	case k == 6:
		g.put(b, 1, api.OpGlobal, g.Intn(g.bounds.Globals))
	default:
		g.put(b, 1, api.OpSelf+g.Intn(4))
	}
}

func (g *grower) store(b *growing) {
	outward := g.Intn(len(g.scopes))
	slots := g.scopes[len(g.scopes)-1-outward]
	switch k := g.Intn(3); {
	case k == 0:
		g.put(b, 0, api.OpStoreField, g.Intn(g.bounds.Fields))
	case k == 1 && slots > 0:
		g.put(b, 0, api.OpStoreTemp, outward, g.Intn(slots))
	default:
		g.put(b, 0, api.OpStoreGlobal, g.Intn(g.bounds.Globals))
	}
}

func (g *grower) block(b *growing) {
	slots := g.Intn(33)
	params := g.Intn(min(slots, 8) + 1)
	g.scopes = append(g.scopes, slots)
	inner := g.body(1+g.Intn(20), b.live)
	g.scopes = g.scopes[:len(g.scopes)-1]
	g.put(b, 1, api.OpBlock, params, slots, len(inner))
	b.words = append(b.words, inner...)
}

// ahead are the places to which a jump back may lead, where it comes with this depth.
func (b *growing) ahead(depth int) []int {
	var list []int
	for at, d := range b.heads {
		if d == depth {
			list = append(list, at)
		}
	}
	slices.Sort(list)
	return list
}

func (g *grower) jump(b *growing) {
	slots := g.scopes[len(g.scopes)-1]
	back := b.ahead(b.depth)
	// Of what is not come to, too, jumps lead to what is.
	switch k := g.Intn(5); {
	case k == 0:
		g.put(b, 0, api.OpJump, 0)
		b.landings = append(b.landings, landing{len(b.words) - 1, b.depth, b.live})
		b.live = false
	case k == 1 && b.depth > 0:
		g.put(b, -1, api.OpIfTrue+g.Intn(2), 0)
		b.landings = append(b.landings, landing{len(b.words) - 1, b.depth, b.live})
	case k == 2 && b.depth > 1 && slots > 0:
		g.put(b, -1, api.OpFirst, g.Intn(slots), 0)
		b.landings = append(b.landings, landing{len(b.words) - 1, b.depth - 1, b.live})
	case k == 3 && len(back) > 0:
		to := back[g.Intn(len(back))]
		g.put(b, 0, api.OpBack, len(b.words)+2-to)
		b.live = false
	case k == 4 && len(back) > 0 && b.depth > 0 && slots > 0:
		to := back[g.Intn(len(back))]
		g.put(b, -1, api.OpNext, g.Intn(slots), len(b.words)+3-to)
	}
}

// literal grows one, of an array's elements if it is to be one.
func (g *grower) literal(element bool, nest int) api.Lit {
	kinds := []int{api.LitText, api.LitArray}
	if element {
		kinds = append(kinds, api.LitInt, api.LitSymbol, api.LitNil, api.LitTrue, api.LitFalse)
	}
	l := api.Lit{Kind: kinds[g.Intn(len(kinds))]}
	switch l.Kind {
	case api.LitInt:
		l.Number = g.Intn(1<<31) - 1<<30
	case api.LitSymbol:
		l.Number = g.Intn(g.bounds.Symbols)
	case api.LitText:
		l = text(g.Intn(257))
	case api.LitArray:
		for range g.Intn(7 - nest) {
			l.Items = append(l.Items, g.literal(true, nest+1))
		}
	}
	return l
}

// grow is a code that is to be taken, and the bounds within which it is.
func grow(dice *rand.Rand) (api.Code, api.Bounds) {
	g := &grower{Rand: dice}
	g.bounds = api.Bounds{Fields: 1 + g.Intn(4), Classes: 1 + g.Intn(20), Globals: 1 + g.Intn(3), Symbols: 1 + g.Intn(5)}
	g.code.Temps = g.Intn(33)
	g.code.Args = g.Intn(min(g.code.Temps, 8) + 1)
	for range g.Intn(4) {
		g.code.Literals = append(g.code.Literals, g.literal(false, 0))
	}
	g.scopes = []int{g.code.Temps}
	g.code.Words = g.body(1+g.Intn(60), true)
	g.code.Stack = g.deepest
	return g.code, g.bounds
}

func copiedLits(list []api.Lit) []api.Lit {
	list = slices.Clone(list)
	for i := range list {
		list[i].Items = copiedLits(list[i].Items)
	}
	return list
}

// spoil changes something of a code, or of its bounds.
func spoil(dice *rand.Rand, c api.Code, b api.Bounds) (api.Code, api.Bounds) {
	c.Words, c.Literals = slices.Clone(c.Words), copiedLits(c.Literals)
	numbers := []int{0, 1, 2, 3, 15, 16, 19, 20, 22, 29, -1, 32, 33, 255, 256, 1 << 30, -1<<30 - 1, math.MinInt, math.MaxInt}
	number := numbers[dice.Intn(len(numbers))]
	at := dice.Intn(len(c.Words))
	switch dice.Intn(12) {
	case 0, 1:
		c.Words[at] = number
	case 2, 3:
		c.Words[at] += dice.Intn(7) - 3
	case 4:
		c.Words[at] = 1 + dice.Intn(28)
	case 5:
		c.Words = c.Words[:at]
	case 6:
		c.Words = slices.Delete(c.Words, at, at+1)
	case 7:
		c.Words = slices.Insert(c.Words, at, 1+dice.Intn(28))
	case 8:
		*[]*int{&c.Args, &c.Temps, &c.Stack}[dice.Intn(3)] += dice.Intn(5) - 2
	case 9:
		*[]*int{&b.Fields, &b.Classes, &b.Globals, &b.Symbols}[dice.Intn(4)] -= 1 + dice.Intn(3)
	case 10:
		spoilLiteral(dice, c.Literals, number)
	case 11:
		c.Words[at], c.Words[len(c.Words)/2] = c.Words[len(c.Words)/2], c.Words[at]
	}
	return c, b
}

func spoilLiteral(dice *rand.Rand, list []api.Lit, number int) {
	if len(list) == 0 {
		return
	}
	l := &list[dice.Intn(len(list))]
	if len(l.Items) > 0 && dice.Intn(3) > 0 {
		spoilLiteral(dice, l.Items, number)
		return
	}
	switch dice.Intn(4) {
	case 0:
		l.Kind = dice.Intn(9)
	case 1:
		l.Number = number
	case 2:
		*l = text(250 + dice.Intn(12))
	case 3:
		*l = row(28+dice.Intn(10), null())
	}
}

// wantJudged holds both calls against the model, and runs what is taken.
func wantJudged(t *testing.T, dice *rand.Rand, c api.Code, b api.Bounds) api.Errno {
	t.Helper()
	depths, e := judge(c, b)
	got, f := check.Depths(c, b)
	if g := check.Check(c, b); g != e || f != e || !slices.Equal(got, depths) {
		t.Fatalf("%+v within %+v:\n got %v, %d, Check %d\nwant %v, %d", c, b, got, f, g, depths, e)
	}
	if e == api.OK {
		if harm := harmOf(dice, c, b); harm != "" {
			t.Fatalf("P11.4: %+v within %+v: %s", c, b, harm)
		}
	}
	return e
}

// P11.1, P11.2, P11.4: codes at random, whole and spoilt, held against the model,
// and run where they are taken.
func TestCodesAtRandom(t *testing.T) {
	dice := rand.New(rand.NewSource(11))
	told := map[api.Errno]int{}
	for range 6000 {
		c, b := grow(dice)
		if e := wantJudged(t, dice, c, b); e != api.OK {
			t.Fatalf("%+v within %+v: grown as it may be: %d", c, b, e)
		}
		for range 6 {
			c, b := spoil(dice, c, b)
			if dice.Intn(5) == 0 && len(c.Words) > 0 {
				c, b = spoil(dice, c, b)
			}
			told[wantJudged(t, dice, c, b)]++
		}
	}
	for _, e := range []api.Errno{api.OK, api.ErrOpcode, api.ErrOperand, api.ErrJump, api.ErrStack, api.ErrEnd} {
		if told[e] < 500 {
			t.Errorf("%d was told %d times of %v", e, told[e], told)
		}
	}
}

// P11.1, P11.5: short lists of small numbers, all there are, and lists of any numbers.
func TestWordsAtRandom(t *testing.T) {
	dice := rand.New(rand.NewSource(12))
	told := map[api.Errno]int{}
	var all func(list []int, more int)
	all = func(list []int, more int) {
		for stack := range 3 {
			told[wantJudged(t, dice, api.Code{Temps: 1, Stack: stack, Words: list}, bounds)]++
		}
		if more > 0 {
			for n := -1; n <= 29; n++ {
				all(append(slices.Clone(list), n), more-1)
			}
		}
	}
	all(nil, 3)
	for range 200000 {
		list := make([]int, dice.Intn(12))
		for i := range list {
			// Small ones more often, and returns behind: so that more is taken.
			list[i] = dice.Intn(1 + dice.Intn(29))
			if dice.Intn(50) == 0 {
				list[i] = int(dice.Uint64())
			}
		}
		list = append(list, 1, 20)
		told[wantJudged(t, dice, api.Code{Temps: 1, Stack: dice.Intn(4), Words: list}, bounds)]++
	}
	for _, e := range []api.Errno{api.OK, api.ErrOpcode, api.ErrOperand, api.ErrJump, api.ErrStack, api.ErrEnd} {
		if told[e] < 50 {
			t.Errorf("%d was told %d times of %v", e, told[e], told)
		}
	}
}
