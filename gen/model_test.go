package gen_test

import (
	"fmt"
	"math/rand"
	"reflect"
	"slices"
	"strings"
	"testing"

	"kiln/api"
	"kiln/gen"
	"kiln/symbol"
)

// shape is an instruction told over from the chapter's table: its operands, what
// it takes from the stack and what it leaves where it goes on with the next.
type shape struct{ operands, takes, leaves int }

func shapeOf(op int, operands []int) shape {
	switch op {
	case api.OpSelf, api.OpNil, api.OpTrue, api.OpFalse:
		return shape{0, 0, 1}
	case api.OpInt, api.OpLit, api.OpSym, api.OpClass, api.OpField, api.OpGlobal:
		return shape{1, 0, 1}
	case api.OpTemp:
		return shape{2, 0, 1}
	case api.OpStoreField, api.OpStoreGlobal:
		return shape{1, 1, 1}
	case api.OpStoreTemp:
		return shape{2, 1, 1}
	case api.OpPop:
		return shape{0, 1, 0}
	case api.OpDup:
		return shape{0, 1, 2}
	case api.OpSend, api.OpSuper:
		return shape{2, operands[1] + 1, 1}
	case api.OpBlock:
		return shape{3, 0, 1}
	case api.OpReturn, api.OpHomeReturn, api.OpBlockReturn:
		return shape{0, 1, 0}
	case api.OpJump, api.OpBack:
		return shape{1, 0, 0}
	case api.OpIfTrue, api.OpIfFalse:
		return shape{1, 1, 0}
	case api.OpFirst:
		return shape{2, 2, 1}
	case api.OpNext:
		return shape{2, 1, 0}
	}
	return shape{}
}

func stops(op int) bool {
	return slices.Contains([]int{api.OpReturn, api.OpHomeReturn, api.OpBlockReturn, api.OpJump, api.OpBack}, op)
}

// jumpDepth is how many cells a jump leaves where it leads, of those that are
// there where it goes on.
func jumpDepth(op, depth int) int {
	switch op {
	case api.OpFirst:
		return depth - 1
	case api.OpNext:
		return depth + 1
	}
	return depth
}

// sound goes over a body's words on all ways; it answers the depth of its stack and those of the blocks in it.
type sound struct {
	t    *testing.T
	code api.Code
}

// wantSound holds a code against P10.3, and its Stack against how deep its stacks become.
func wantSound(t *testing.T, code api.Code) {
	t.Helper()
	s := sound{t, code}
	if deepest := s.body(0, len(code.Words), true, []int{code.Temps}); deepest != code.Stack {
		t.Fatalf("%+v: the stack becomes %d deep", code, deepest)
	}
}

func (s sound) fatal(place int, what string) {
	s.t.Helper()
	s.t.Fatalf("%+v: at %d: %s", s.code, place, what)
}

// operands are those of the instruction at a place.
func (s sound) operands(place int) []int {
	w := s.code.Words[place:]
	padded := append(slices.Clone(w[1:min(len(w), 4)]), 0, 0, 0)
	return padded[:shapeOf(w[0], padded).operands]
}

// jump is where an instruction may lead besides the next one.
func (s sound) jump(place int) (int, bool) {
	args := s.operands(place)
	end := place + 1 + len(args)
	switch s.code.Words[place] {
	case api.OpJump, api.OpIfTrue, api.OpIfFalse, api.OpFirst:
		return end + args[len(args)-1], true
	case api.OpBack, api.OpNext:
		return end - args[len(args)-1], true
	}
	return 0, false
}

func (s sound) body(from, to int, come bool, scopes []int) int {
	s.t.Helper()
	next := map[int]int{}
	for place := from; place < to; place = next[place] {
		args := s.operands(place)
		next[place] = place + 1 + len(args)
		if s.code.Words[place] == api.OpBlock {
			next[place] += args[2]
		}
		if next[place] > to {
			s.fatal(place, "beyond the end")
		}
		s.named(place, scopes)
	}
	depths := map[int]int{}
	deepest := 0
	if come {
		deepest = s.flow(from, next, depths)
	}
	for place := range next {
		if target, jumps := s.jump(place); jumps && next[target] == 0 {
			s.fatal(place, "a jump to no instruction")
		}
		if s.code.Words[place] == api.OpBlock {
			_, made := depths[place]
			deepest = max(deepest, s.body(place+4, next[place], made, append(slices.Clone(scopes), s.code.Words[place+2])))
		}
	}
	return deepest
}

// named looks at the things that an instruction names.
func (s sound) named(place int, scopes []int) {
	s.t.Helper()
	args := s.operands(place)
	own := scopes[len(scopes)-1]
	switch s.code.Words[place] {
	case api.OpLit:
		if args[0] < 0 || args[0] >= len(s.code.Literals) {
			s.fatal(place, "no literal")
		}
	case api.OpTemp, api.OpStoreTemp:
		if args[0] < 0 || args[0] >= len(scopes) || args[1] < 0 || args[1] >= scopes[len(scopes)-1-args[0]] {
			s.fatal(place, "no slot")
		}
	case api.OpFirst, api.OpNext:
		if args[0] < 0 || args[0] >= own {
			s.fatal(place, "no slot")
		}
	case api.OpReturn:
		if len(scopes) != 1 {
			s.fatal(place, "in a block")
		}
	case api.OpHomeReturn, api.OpBlockReturn:
		if len(scopes) == 1 {
			s.fatal(place, "in no block")
		}
	}
}

// flow goes on all ways from a body's first instruction.
func (s sound) flow(from int, next map[int]int, depths map[int]int) int {
	s.t.Helper()
	deepest := 0
	type way struct{ place, depth int }
	for ways := []way{{from, 0}}; len(ways) > 0; {
		w := ways[len(ways)-1]
		ways = ways[:len(ways)-1]
		if next[w.place] == 0 {
			s.fatal(w.place, "run off the end")
		}
		if was, there := depths[w.place]; there {
			if was != w.depth {
				s.fatal(w.place, fmt.Sprintf("the stack is %d deep, and %d", was, w.depth))
			}
			continue
		}
		depths[w.place] = w.depth
		op := s.code.Words[w.place]
		does := shapeOf(op, s.operands(w.place))
		if w.depth < does.takes {
			s.fatal(w.place, "the stack is empty")
		}
		behind := w.depth - does.takes + does.leaves
		deepest = max(deepest, behind)
		if target, jumps := s.jump(w.place); jumps {
			ways = append(ways, way{target, jumpDepth(op, behind)})
		}
		if !stops(op) {
			ways = append(ways, way{next[w.place], behind})
		}
	}
	return deepest
}

// The model lays steps in a list, with labels where jumps lead, and judges the
// list when it is whole.

const (
	stepTree    = 1 // a node that may not be
	stepLiteral = 2
	stepElement = 3
	stepSymbol  = 4
	stepLabel   = 5
	stepOp      = 6
)

type step struct {
	what, at int
	text     string // of a symbol; of an instruction: the one that is its first operand, if it is not ""
	op       int
	args     []int
	label    int // the label that stands here, or to which an instruction leads; 0: none
}

type model struct {
	steps  []step
	labels int
	scopes []int
	lits   []api.Bound // those that have a place among the literals
}

// tooBig is thrown where a tree may not be: nothing is laid behind it.
type tooBig struct{}

func (m *model) add(s step) { m.steps = append(m.steps, s) }

func (m *model) op(at, op int, args ...int) { m.add(step{what: stepOp, at: at, op: op, args: args}) }

func (m *model) jump(at, op, label int, args ...int) {
	m.add(step{what: stepOp, at: at, op: op, args: args, label: label})
}

func (m *model) newLabel() int {
	m.labels++
	return m.labels
}

func (m *model) stand(label int) { m.add(step{what: stepLabel, label: label}) }

func (m *model) wrong(at int) {
	m.add(step{what: stepTree, at: at})
	panic(tooBig{})
}

func (m *model) want(ok bool, at int) {
	if !ok {
		m.wrong(at)
	}
}

func allOf(list []api.Bound, kinds ...int) bool {
	for _, n := range list {
		if !slices.Contains(kinds, n.Kind) {
			return false
		}
	}
	return true
}

// may tells over the chapter's list of what a node may be.
func (m *model) may(n api.Bound) bool {
	blocks, count, size := len(m.scopes)-1, len(n.Kids), len(n.Text)
	own := m.scopes[blocks]
	switch n.Kind {
	case 1:
		return -(1<<30) <= n.Number && n.Number < 1<<30
	case 2:
		return size <= 256
	case 3:
		return size > 0 && size <= 96
	case 4:
		return count <= 32
	case 5, 6, 7, 8:
		return true
	case 9:
		return n.Index >= 0 && n.Index < 32
	case 10:
		return n.Depth >= 0 && n.Depth <= blocks && n.Index >= 0 && n.Index < m.scopes[blocks-n.Depth]
	case 11:
		return n.Index >= 0 && n.Index < 256
	case 12:
		return n.Number > 0 && n.Number <= 256
	case 13:
		return count == 2 && allOf(n.Kids[:1], 9, 10, 11)
	case 14:
		return size > 0 && size <= 96 && count > 0 && count < 10
	case 15:
		return size > 0 && size <= 96 && count < 9
	case 16:
		return count > 1 && allOf(n.Kids[1:], 14, 15) && (n.Kids[0].Kind == 8 || allOf(n.Kids[1:], 14))
	case 17:
		return n.Params >= 0 && n.Params < 9 && n.Slots >= n.Params && n.Slots < 33 && blocks < 24
	case 18:
		return count == 1 && n.Depth == blocks
	case 19:
		wanted := map[int]int{1: 2, 2: 2, 3: 3, 4: 3, 5: 2, 6: 2}[n.Number]
		return wanted != 0 && count == wanted && allOf(n.Kids[1:], 22)
	case 20:
		return (n.Number == 1 || n.Number == 2) && count == 2 && allOf(n.Kids, 22)
	case 21:
		return count == 3 && n.Kids[2].Kind == 22 && n.Index >= 0 && n.Index < own
	case 22:
		for _, slot := range n.Clear {
			if slot < 0 || slot >= own {
				return false
			}
		}
		return true
	}
	return false
}

func (m *model) list(at int, statements []api.Bound) {
	for i, n := range statements {
		last := i == len(statements)-1
		if !last || n.Kind != api.BoundReturn {
			m.value(n)
		} else {
			m.node(n)
		}
		if !last {
			m.op(n.At, api.OpPop)
		}
	}
	if len(statements) == 0 {
		m.op(at, api.OpNil)
	}
}

func (m *model) value(n api.Bound) {
	m.want(n.Kind != api.BoundReturn && n.Kind != api.BoundBody, n.At)
	m.node(n)
}

func (m *model) values(list []api.Bound) {
	for _, n := range list {
		m.value(n)
	}
}

func (m *model) named(at, op int, text string, args ...int) {
	m.add(step{what: stepSymbol, at: at, text: text})
	m.add(step{what: stepOp, at: at, op: op, text: text, args: args})
}

func (m *model) send(n api.Bound, args int) {
	m.named(n.At, map[int]int{api.BoundSend: api.OpSend, api.BoundSuper: api.OpSuper}[n.Kind], n.Text, args)
}

func (m *model) element(n api.Bound) {
	m.want(allOf([]api.Bound{n}, 1, 2, 3, 4, 5, 6, 7) && m.may(n), n.At)
	m.add(step{what: stepElement, at: n.At})
	if n.Kind == api.BoundSymbol {
		m.add(step{what: stepSymbol, at: n.At, text: n.Text})
	}
	if n.Kind == api.BoundArray {
		for _, k := range n.Kids {
			m.element(k)
		}
	}
}

func (m *model) node(n api.Bound) {
	m.want(m.may(n), n.At)
	simple := map[int]int{api.BoundNil: api.OpNil, api.BoundTrue: api.OpTrue, api.BoundFalse: api.OpFalse, api.BoundSelf: api.OpSelf}
	indexed := map[int]int{api.BoundField: api.OpField, api.BoundGlobal: api.OpGlobal}
	numbered := map[int]int{api.BoundInt: api.OpInt, api.BoundClass: api.OpClass}
	switch {
	case simple[n.Kind] != 0:
		m.op(n.At, simple[n.Kind])
	case indexed[n.Kind] != 0:
		m.op(n.At, indexed[n.Kind], n.Index)
	case numbered[n.Kind] != 0:
		m.op(n.At, numbered[n.Kind], n.Number)
	case n.Kind == api.BoundTemp:
		m.op(n.At, api.OpTemp, n.Depth, n.Index)
	case n.Kind == api.BoundSymbol:
		m.named(n.At, api.OpSym, n.Text)
	case n.Kind == api.BoundText || n.Kind == api.BoundArray:
		m.add(step{what: stepLiteral, at: n.At})
		if n.Kind == api.BoundArray {
			for _, k := range n.Kids {
				m.element(k)
			}
		}
		m.lits = append(m.lits, n)
		m.op(n.At, api.OpLit, len(m.lits)-1)
	default:
		m.compound(n)
	}
}

func (m *model) compound(n api.Bound) {
	switch n.Kind {
	case api.BoundAssign:
		target := n.Kids[0]
		m.want(m.may(target), target.At)
		m.value(n.Kids[1])
		op := map[int]int{api.BoundField: api.OpStoreField, api.BoundTemp: api.OpStoreTemp, api.BoundGlobal: api.OpStoreGlobal}[target.Kind]
		if target.Kind == api.BoundTemp {
			m.op(n.At, op, target.Depth, target.Index)
		} else {
			m.op(n.At, op, target.Index)
		}
	case api.BoundSend:
		m.values(n.Kids)
		m.send(n, len(n.Kids)-1)
	case api.BoundSuper:
		m.op(n.At, api.OpSelf)
		m.values(n.Kids)
		m.send(n, len(n.Kids))
	case api.BoundCascade:
		m.value(n.Kids[0])
		for i, k := range n.Kids[1:] {
			m.want(len(k.Text) > 0 && len(k.Text) <= 96 && len(k.Kids) <= 8, k.At)
			if i < len(n.Kids)-2 {
				m.op(k.At, api.OpDup)
			}
			m.values(k.Kids)
			m.send(k, len(k.Kids))
			if i < len(n.Kids)-2 {
				m.op(k.At, api.OpPop)
			}
		}
	case api.BoundReturn:
		m.value(n.Kids[0])
		if len(m.scopes) == 1 {
			m.op(n.At, api.OpReturn)
		} else {
			m.op(n.At, api.OpHomeReturn)
		}
	case api.BoundBlock:
		end := m.newLabel()
		m.jump(n.At, api.OpBlock, end, n.Params, n.Slots)
		m.scopes = append(m.scopes, n.Slots)
		m.list(n.At, n.Kids)
		if len(n.Kids) == 0 || n.Kids[len(n.Kids)-1].Kind != api.BoundReturn {
			m.op(n.At, api.OpBlockReturn)
		}
		m.scopes = m.scopes[:len(m.scopes)-1]
		m.stand(end)
	case api.BoundBody:
		for _, slot := range n.Clear {
			m.op(n.At, api.OpNil)
			m.op(n.At, api.OpStoreTemp, 0, slot)
			m.op(n.At, api.OpPop)
		}
		m.list(n.At, n.Kids)
	default:
		m.control(n)
	}
}

func (m *model) control(n api.Bound) {
	begin, end, other := m.newLabel(), m.newLabel(), m.newLabel()
	test := []int{api.OpIfTrue, api.OpIfFalse}[n.Number&1]
	switch n.Kind {
	case api.BoundIf:
		m.value(n.Kids[0])
		m.jump(n.At, test, other)
		m.node(n.Kids[1])
		m.jump(n.At, api.OpJump, end)
		m.stand(other)
		if len(n.Kids) == 3 {
			m.node(n.Kids[2])
		} else {
			m.op(n.At, []int{0, api.OpNil, api.OpNil, 0, 0, api.OpFalse, api.OpTrue}[n.Number])
		}
		m.stand(end)
	case api.BoundWhile:
		m.stand(begin)
		m.node(n.Kids[0])
		m.jump(n.At, test, end)
		m.node(n.Kids[1])
		m.op(n.At, api.OpPop)
		m.jump(n.At, api.OpBack, begin)
		m.stand(end)
		m.op(n.At, api.OpNil)
	case api.BoundToDo:
		m.values(n.Kids[:2])
		m.jump(n.At, api.OpFirst, end, n.Index)
		m.stand(begin)
		m.node(n.Kids[2])
		m.op(n.At, api.OpPop)
		m.jump(n.At, api.OpNext, begin, n.Index)
		m.stand(end)
		m.op(n.At, api.OpNil)
	}
}

// lay lays the steps of a method, up to a node that may not be.
func (m *model) lay(s api.Scoped) {
	defer func() {
		if thrown := recover(); thrown != nil && thrown != (tooBig{}) {
			panic(thrown)
		}
	}()
	m.want(s.Params >= 0 && s.Params <= 8 && s.Slots >= s.Params && s.Slots <= 32, 0)
	m.scopes = []int{s.Slots}
	if len(s.Body) == 0 {
		m.op(0, api.OpSelf)
		m.op(0, api.OpReturn)
		return
	}
	m.list(0, s.Body)
	if last := s.Body[len(s.Body)-1]; last.Kind != api.BoundReturn {
		m.op(last.At, api.OpPop)
		m.op(last.At, api.OpSelf)
		m.op(last.At, api.OpReturn)
	}
}

func (m *model) places() map[int]int {
	places := map[int]int{}
	for i, s := range m.steps {
		if s.what == stepLabel {
			places[s.label] = i
		}
	}
	return places
}

// depths is how deep the stack is behind each step that is come to.
func (m *model) depths() map[int]int {
	places, depths := m.places(), map[int]int{}
	type way struct{ step, depth int }
	for ways := []way{{0, 0}}; len(ways) > 0; {
		w := ways[len(ways)-1]
		ways = ways[:len(ways)-1]
		if _, there := depths[w.step]; there || w.step >= len(m.steps) {
			continue
		}
		s := m.steps[w.step]
		depth := w.depth
		if s.what == stepOp {
			does := shapeOf(s.op, append([]int{0}, s.args...))
			depth += does.leaves - does.takes
			if place, there := places[s.label]; there && s.op == api.OpBlock {
				ways = append(ways, way{place, depth})
			} else if there {
				ways = append(ways, way{place, jumpDepth(s.op, depth)})
			}
		}
		depths[w.step] = depth
		switch {
		case s.what == stepOp && s.op == api.OpBlock:
			ways = append(ways, way{w.step + 1, 0})
		case s.what != stepOp || !stops(s.op):
			ways = append(ways, way{w.step + 1, depth})
		}
	}
	return depths
}

func (s step) words() int {
	words := 1 + len(s.args)
	if s.label != 0 {
		words++
	}
	if s.text != "" {
		words++
	}
	return words
}

// judge is the first fault, how deep the stack becomes, and what the table has then.
func (m *model) judge(texts []string, most int) (api.Fault, int, []string) {
	texts = slices.Clone(texts)
	depths := m.depths()
	literals, elements, words, deepest := 0, 0, 0, 0
	for i, s := range m.steps {
		code := api.OK
		switch s.what {
		case stepTree:
			code = api.ErrTree
		case stepLiteral:
			if literals++; literals > 64 {
				code = api.ErrLong
			}
		case stepElement:
			if elements++; elements > 4096 {
				code = api.ErrLong
			}
		case stepSymbol:
			if slices.Contains(texts, s.text) {
				break
			}
			if len(texts) == most {
				code = api.ErrSymbols
			}
			texts = append(texts, s.text)
		case stepOp:
			words += s.words()
			depth, come := depths[i]
			if words > 4096 || come && depth > 256 {
				code = api.ErrLong
			}
			if come {
				deepest = max(deepest, depth)
			}
		}
		if code != api.OK {
			return api.Fault{Code: code, At: s.at}, 0, nil
		}
	}
	return api.Fault{}, deepest, texts
}

func modelLit(n api.Bound, texts []string) api.Lit {
	l := api.Lit{Kind: []int{0, api.LitInt, api.LitText, api.LitSymbol, api.LitArray, api.LitNil, api.LitTrue, api.LitFalse}[n.Kind]}
	switch n.Kind {
	case api.BoundInt:
		l.Number = n.Number
	case api.BoundText:
		l.Text = n.Text
	case api.BoundSymbol:
		l.Number = slices.Index(texts, n.Text)
	case api.BoundArray:
		for _, k := range n.Kids {
			l.Items = append(l.Items, modelLit(k, texts))
		}
	}
	return l
}

// write is the words of the steps.
func (m *model) write(texts []string) []int {
	at := map[int]int{}
	place := 0
	for _, s := range m.steps {
		if s.what == stepLabel {
			at[s.label] = place
		}
		if s.what == stepOp {
			place += s.words()
		}
	}
	var words []int
	for _, s := range m.steps {
		if s.what != stepOp {
			continue
		}
		end := len(words) + s.words()
		words = append(words, s.op)
		if s.text != "" {
			words = append(words, slices.Index(texts, s.text))
		}
		words = append(words, s.args...)
		if s.label != 0 {
			words = append(words, max(at[s.label]-end, end-at[s.label]))
		}
	}
	return words
}

func modelled(s api.Scoped, texts []string, most int) (api.Code, api.Fault, []string) {
	m := &model{}
	m.lay(s)
	fault, deepest, after := m.judge(texts, most)
	if fault != (api.Fault{}) {
		return api.Code{}, fault, texts
	}
	code := api.Code{Args: s.Params, Temps: s.Slots, Stack: deepest, Words: m.write(after)}
	for _, n := range m.lits {
		code.Literals = append(code.Literals, modelLit(n, after))
	}
	return code, fault, after
}

// grower makes trees at random.
type grower struct {
	*rand.Rand
	scopes []int
	left   int // how many nodes there may still be, or so
}

func (g *grower) place() int { return g.Intn(1000) - 3 }

func (g *grower) selector() string {
	if g.Intn(40) == 0 {
		return strings.Repeat("s", 90+g.Intn(7))
	}
	return []string{"a", "b", "c:", "d:e:", "+", "foo", "bar:", "\x00"}[g.Intn(8)]
}

func (g *grower) some(most int, make func() api.Bound) []api.Bound {
	var list []api.Bound
	for range g.Intn(most + 1) {
		list = append(list, make())
	}
	return list
}

func (g *grower) own() int { return g.scopes[len(g.scopes)-1] }

func (g *grower) leaf() api.Bound {
	kind := 1 + g.Intn(12)
	n := api.Bound{Kind: kind, At: g.place()}
	switch kind {
	case api.BoundInt:
		n.Number = []int{0, 1, 7, -1, api.LeastInt, api.MostInt}[g.Intn(6)]
	case api.BoundText:
		n.Text = strings.Repeat("t", []int{0, 1, 3, 256}[g.Intn(4)])
	case api.BoundSymbol:
		n.Text = g.selector()
	case api.BoundArray:
		n.Kids = g.some(4, g.literal)
	case api.BoundField:
		n.Index = g.Intn(32)
	case api.BoundTemp:
		n.Depth = g.Intn(len(g.scopes))
		if slots := g.scopes[len(g.scopes)-1-n.Depth]; slots > 0 {
			n.Index = g.Intn(slots)
		} else {
			n.Kind = api.BoundSelf
		}
	case api.BoundGlobal:
		n.Index = g.Intn(256)
	case api.BoundClass:
		n.Number = 1 + g.Intn(256)
	}
	return n
}

func (g *grower) literal() api.Bound {
	for {
		if n := g.leaf(); n.Kind <= api.BoundFalse {
			return n
		}
	}
}

func (g *grower) message() api.Bound {
	return api.Bound{Kind: api.BoundSend, Text: g.selector(), At: g.place(), Kids: g.some(2, g.node)}
}

func (g *grower) node() api.Bound {
	g.left--
	if g.left < 0 || g.Intn(3) == 0 {
		return g.leaf()
	}
	n := api.Bound{Kind: api.BoundAssign + g.Intn(9), At: g.place()}
	switch n.Kind {
	case api.BoundAssign:
		target := g.leaf()
		for target.Kind != api.BoundField && target.Kind != api.BoundTemp && target.Kind != api.BoundGlobal {
			target = g.leaf()
		}
		n.Kids = []api.Bound{target, g.node()}
	case api.BoundSend:
		n.Text, n.Kids = g.selector(), append([]api.Bound{g.node()}, g.some(3, g.node)...)
	case api.BoundSuper:
		n.Text, n.Kids = g.selector(), g.some(3, g.node)
	case api.BoundCascade:
		n.Kids = append([]api.Bound{g.node(), g.message()}, g.some(2, g.message)...)
		if g.Intn(3) == 0 {
			n.Kids[0] = api.Bound{Kind: api.BoundSelf, At: g.place()}
			for i := range n.Kids[1:] {
				n.Kids[1+i].Kind += g.Intn(2)
			}
		}
	case api.BoundBlock, api.BoundReturn:
		n = g.block()
	default:
		n = g.control()
	}
	return n
}

func (g *grower) block() api.Bound {
	if len(g.scopes) > 24 {
		return g.leaf()
	}
	n := api.Bound{Kind: api.BoundBlock, At: g.place(), Params: g.Intn(3)}
	n.Slots = n.Params + g.Intn(3)
	g.scopes = append(g.scopes, n.Slots)
	n.Kids = g.statements(3)
	g.scopes = g.scopes[:len(g.scopes)-1]
	return n
}

func (g *grower) control() api.Bound {
	n := api.Bound{Kind: api.BoundIf + g.Intn(3), At: g.place()}
	switch {
	case n.Kind == api.BoundWhile:
		n.Number, n.Kids = 1+g.Intn(2), []api.Bound{g.body(), g.body()}
	case n.Kind == api.BoundToDo && g.own() > 0:
		n.Index, n.Kids = g.Intn(g.own()), []api.Bound{g.node(), g.node(), g.body()}
	default:
		n.Kind, n.Number, n.Kids = api.BoundIf, 1+g.Intn(6), []api.Bound{g.node(), g.body()}
		if n.Number == 3 || n.Number == 4 {
			n.Kids = append(n.Kids, g.body())
		}
	}
	return n
}

func (g *grower) body() api.Bound {
	n := api.Bound{Kind: api.BoundBody, At: g.place(), Kids: g.statements(3)}
	for range g.Intn(3) {
		if g.own() > 0 {
			n.Clear = append(n.Clear, g.Intn(g.own()))
		}
	}
	return n
}

func (g *grower) statements(most int) []api.Bound {
	list := g.some(most, g.node)
	if g.Intn(3) == 0 {
		list = append(list, api.Bound{Kind: api.BoundReturn, At: g.place(), Depth: len(g.scopes) - 1, Kids: []api.Bound{g.node()}})
	}
	return list
}

func (g *grower) method(nodes int) api.Scoped {
	m := api.Scoped{Params: g.Intn(3)}
	m.Slots = m.Params + g.Intn(4)
	g.scopes, g.left = []int{m.Slots}, nodes
	m.Body = g.statements(5)
	return m
}

// crowd brings some methods near to a limit.
func (g *grower) crowd(m *api.Scoped) {
	switch g.Intn(8) {
	case 0:
		m.Body = append(filling(api.MaxCode-2-g.Intn(60)), m.Body...)
	case 1:
		for i, n := range m.Body {
			if n.Kind != api.BoundReturn {
				m.Body[i] = deep(api.MaxStack-g.Intn(5), n)
			}
		}
	case 2:
		m.Body = append(slices.Repeat(kids(text("t")), 64-g.Intn(4)), m.Body...)
	case 3:
		m.Body = append(elements(api.MaxCode-g.Intn(10)), m.Body...)
	}
}

// nodesOf is all nodes of a tree, behind those that are there already.
func nodesOf(list []api.Bound, out []*api.Bound) []*api.Bound {
	for i := range list {
		out = nodesOf(list[i].Kids, append(out, &list[i]))
	}
	return out
}

// copied is nodes as memory of their own.
func copied(list []api.Bound) []api.Bound {
	out := slices.Clone(list)
	for i, n := range out {
		out[i].Clear, out[i].Kids = slices.Clone(n.Clear), copied(n.Kids)
	}
	return out
}

// spoil changes something of a tree.
func (g *grower) spoil(m *api.Scoped) {
	all := nodesOf(m.Body, nil)
	if len(all) == 0 || g.Intn(30) == 0 {
		m.Params, m.Slots = g.Intn(12)-1, g.Intn(36)-1
		return
	}
	n, other := all[g.Intn(len(all))], all[g.Intn(len(all))]
	switch g.Intn(10) {
	case 0:
		n.Kind = g.Intn(26) - 1
	case 1:
		n.Number = []int{0, 1, 2, 3, 6, 7, -1, 256, 257, 1 << 30, -1<<30 - 1}[g.Intn(11)]
	case 2:
		n.Text = strings.Repeat("w", []int{0, 96, 97, 256, 257}[g.Intn(5)])
	case 3:
		n.Depth += g.Intn(3) - 1
	case 4:
		n.Index = []int{-1, 0, 1, 2, 31, 32, 255, 256}[g.Intn(8)]
	case 5:
		n.Params, n.Slots = g.Intn(12)-1, g.Intn(36)-1
	case 6:
		n.Clear = append(n.Clear, g.Intn(5)-1)
	case 7:
		if len(n.Kids) > 0 {
			n.Kids = slices.Delete(slices.Clone(n.Kids), 0, 1)
		}
	case 8:
		n.Kids = slices.Insert(slices.Clone(n.Kids), g.Intn(len(n.Kids)+1), copied(kids(*other))...)
	case 9:
		n.Kids = append(slices.Clone(n.Kids), slices.Repeat(kids(null()), 33)...)
	}
}

func (g *grower) table(t *testing.T) (*symbol.Table, []string, int) {
	texts := []string{"foo", "z", "+", "a", "y"}[:g.Intn(6)]
	most := len(texts) + g.Intn(4)
	if g.Intn(4) > 0 {
		most = 100
	}
	return table(t, most, texts...), texts, most
}

// P10.1 to P10.3: trees at random, whole and spoilt, held against the model.
func TestTreesAtRandom(t *testing.T) {
	seen := map[api.Errno]int{}
	long := 0
	for seed := range int64(800) {
		g := &grower{Rand: rand.New(rand.NewSource(seed))}
		m := g.method([]int{5, 20, 60, 200, 1200}[g.Intn(5)])
		for range max(0, g.Intn(14)-5) {
			g.spoil(&m)
		}
		g.crowd(&m)
		x, texts, most := g.table(t)
		want, fault, after := modelled(m, texts, most)
		got, gotFault := gen.Make(m, x)
		if fault != gotFault || !same(got, want) || fault.Code != api.OK && !reflect.DeepEqual(got, api.Code{}) {
			t.Fatalf("%d: %.3000s:\n got %+v, %+v,\nwant %+v, %+v", seed, fmt.Sprintf("%+v", m), got, gotFault, want, fault)
		}
		wantTexts(t, x, after...)
		seen[fault.Code]++
		if fault.Code == api.OK {
			wantSound(t, got)
			if len(got.Words) > 500 {
				long++
			}
		}
	}
	if seen[api.OK] < 200 || seen[api.ErrTree] < 100 || seen[api.ErrLong] < 90 || seen[api.ErrSymbols] < 50 || long < 20 {
		t.Fatalf("too few of a kind: %v, %d long", seen, long)
	}
}
