package check_test

import (
	"math/big"
	"slices"

	"kiln/api"
)

// The model tells the chapter over: it reads a code as bodies with instructions,
// asks of each clause whether anything breaks it, and finds what is come to by
// going over all instructions until nothing is new.

// telling is a line of chapter 10's table. Each operand is a letter: n a number,
// l a literal, s a symbol, c a class, f a field, d a scope outward, i a slot of
// that scope, o one of the own scope, g a global, a arguments, p parameters,
// t slots, k the words of a block, j words on, b words back. Of the stack stands
// what is taken, what is left on the way on, and what on that of a jump; -1: there
// is no such way.
type telling struct {
	operands          string
	takes, left, leap int
}

var tellings = map[int]telling{
	1: {"", 0, 1, -1}, 2: {"", 0, 1, -1}, 3: {"", 0, 1, -1}, 4: {"", 0, 1, -1},
	5: {"n", 0, 1, -1}, 6: {"l", 0, 1, -1}, 7: {"s", 0, 1, -1}, 8: {"c", 0, 1, -1}, 9: {"f", 0, 1, -1}, 10: {"di", 0, 1, -1}, 11: {"g", 0, 1, -1},
	12: {"f", 1, 1, -1}, 13: {"di", 1, 1, -1}, 14: {"g", 1, 1, -1}, 15: {"", 1, 0, -1}, 16: {"", 1, 2, -1},
	17: {"sa", 1, 1, -1}, 18: {"sa", 1, 1, -1}, 19: {"ptk", 0, 1, -1},
	20: {"", 1, -1, -1}, 21: {"", 1, -1, -1}, 22: {"", 1, -1, -1},
	23: {"j", 0, -1, 0}, 24: {"j", 1, 0, 0}, 25: {"j", 1, 0, 0}, 26: {"b", 0, -1, 0}, 27: {"oj", 2, 1, 0}, 28: {"ob", 1, 0, 1},
}

type modelInstruction struct {
	at, op   int
	operands []int
	next     int
	leads    int // where it jumps, if it does
	inner    *modelBody
}

type modelBody struct {
	from, to     int
	slots        []int // of the scopes around, the own one last
	instructions []*modelInstruction
}

type modelled struct {
	code   api.Code
	bounds api.Bounds
	bodies []*modelBody
	come   map[int]bool
	depths map[int]int
}

// judge is the chapter's P11.1 and P11.2.
func judge(c api.Code, b api.Bounds) ([]int, api.Errno) {
	m := &modelled{code: c, bounds: b, come: map[int]bool{}, depths: map[int]int{}}
	clauses := []func() api.Errno{m.long, m.counts, m.literals, m.instructions, m.jumps, m.ends, m.stack}
	for _, clause := range clauses {
		if e := clause(); e != api.OK {
			return nil, e
		}
	}
	list := times(len(c.Words), -1)
	for at, depth := range m.depths {
		list[at] = depth
	}
	return list, api.OK
}

func (m *modelled) long() api.Errno {
	if len(m.code.Words) > 4096 || len(m.code.Literals) > 64 {
		return api.ErrLong
	}
	return api.OK
}

func (m *modelled) counts() api.Errno {
	c := m.code
	if c.Args < 0 || c.Args > 8 || c.Temps < c.Args || c.Temps > 32 || c.Stack < 0 || c.Stack > 256 {
		return api.ErrOperand
	}
	return api.OK
}

// literals goes over a pile: what is in an array is laid on top of it.
func (m *modelled) literals() api.Errno {
	type piled struct {
		lit     api.Lit
		element bool
	}
	var pile []piled
	lay := func(list []api.Lit, element bool) {
		for _, l := range slices.Backward(list) {
			pile = append(pile, piled{l, element})
		}
	}
	lay(m.code.Literals, false)
	elements := 0
	for len(pile) > 0 {
		top := pile[len(pile)-1]
		pile = pile[:len(pile)-1]
		may := false
		switch l := top.lit; l.Kind {
		case 1:
			may = top.element && l.Number >= -(1<<30) && l.Number < 1<<30
		case 2:
			may = len(l.Text) <= 256
		case 3:
			may = top.element && l.Number >= 0 && l.Number < m.bounds.Symbols
		case 4:
			may = len(l.Items) <= 32
		case 5, 6, 7:
			may = top.element
		}
		if !may {
			return api.ErrOperand
		}
		if top.element {
			if elements++; elements > 4096 {
				return api.ErrLong
			}
		}
		if top.lit.Kind == 4 {
			lay(top.lit.Items, true)
		}
	}
	return api.OK
}

func (m *modelled) instructions() api.Errno {
	return m.body(&modelBody{to: len(m.code.Words), slots: []int{m.code.Temps}})
}

func (m *modelled) body(b *modelBody) api.Errno {
	m.bodies = append(m.bodies, b)
	for at := b.from; at < b.to; {
		x := &modelInstruction{at: at, op: m.code.Words[at]}
		line, there := tellings[x.op]
		x.next = at + 1 + len(line.operands)
		if !there || x.next > b.to {
			return api.ErrOpcode
		}
		x.operands = m.code.Words[at+1 : x.next]
		if x.op == 19 && x.operands[2] > b.to-x.next {
			return api.ErrOpcode
		}
		if inBlock := len(b.slots) > 1; inBlock && x.op == 20 || !inBlock && (x.op == 21 || x.op == 22) {
			return api.ErrOpcode
		}
		for i, letter := range line.operands {
			if !m.operand(b, letter, x.operands, i) {
				return api.ErrOperand
			}
		}
		b.instructions = append(b.instructions, x)
		if x.op == 19 {
			x.inner = &modelBody{from: x.next, to: x.next + x.operands[2], slots: append(slices.Clone(b.slots), x.operands[1])}
			x.next = x.inner.to
			if e := m.body(x.inner); e != api.OK {
				return e
			}
		}
		at = x.next
	}
	return api.OK
}

// operand tells whether one is in its range.
func (m *modelled) operand(b *modelBody, letter rune, operands []int, i int) bool {
	n, blocks := operands[i], len(b.slots)-1
	from := func(least, less int) bool { return least <= n && n < less }
	switch letter {
	case 'n':
		return from(-1<<30, 1<<30)
	case 'l':
		return from(0, len(m.code.Literals))
	case 's':
		return from(0, m.bounds.Symbols)
	case 'c':
		return n > 0 && n <= m.bounds.Classes
	case 'f':
		return from(0, m.bounds.Fields)
	case 'g':
		return from(0, m.bounds.Globals)
	case 'd':
		return from(0, blocks+1)
	case 'i':
		return from(0, b.slots[blocks-operands[0]])
	case 'o':
		return from(0, b.slots[blocks])
	case 'a':
		return from(0, 9)
	case 'p':
		return from(0, 9) && blocks < 24
	case 't':
		return from(operands[0], 33)
	case 'k':
		return n > 0
	}
	return true
}

func (b *modelBody) find(at int) *modelInstruction {
	for _, x := range b.instructions {
		if x.at == at {
			return x
		}
	}
	return nil
}

// jumps counts words with numbers that do not wrap round.
func (m *modelled) jumps() api.Errno {
	for _, b := range m.bodies {
		for _, x := range b.instructions {
			if tellings[x.op].leap < 0 {
				continue
			}
			end := x.at + 1 + len(x.operands)
			far := big.NewInt(int64(x.operands[len(x.operands)-1]))
			if x.op == 26 || x.op == 28 {
				far.Neg(far)
			}
			far.Add(far, big.NewInt(int64(end)))
			if !far.IsInt64() || b.find(int(far.Int64())) == nil {
				return api.ErrJump
			}
			x.leads = int(far.Int64())
			back := x.op == 26 || x.op == 28
			if back && x.leads >= x.at || !back && x.leads < end {
				return api.ErrJump
			}
		}
	}
	return api.OK
}

// ways are the places to which an instruction leads, within its body.
func (x *modelInstruction) ways() []int {
	var list []int
	if tellings[x.op].left >= 0 {
		list = append(list, x.next)
	}
	if tellings[x.op].leap >= 0 {
		list = append(list, x.leads)
	}
	return list
}

func (m *modelled) ends() api.Errno {
	if len(m.code.Words) == 0 {
		return api.ErrEnd
	}
	m.come[0] = true
	for grown := true; grown; {
		grown = false
		for _, b := range m.bodies {
			for _, x := range b.instructions {
				if !m.come[x.at] {
					continue
				}
				list := x.ways()
				if x.inner != nil {
					list = append(list, x.inner.from)
				}
				for _, at := range list {
					grown = grown || !m.come[at]
					m.come[at] = true
				}
			}
		}
	}
	for _, b := range m.bodies {
		for _, x := range b.instructions {
			if m.come[x.at] && slices.Contains(x.ways(), b.to) {
				return api.ErrEnd
			}
		}
	}
	return api.OK
}

// stack gives depths from the first instructions on, until each has one.
func (m *modelled) stack() api.Errno {
	deepest := 0
	for _, b := range m.bodies {
		if m.come[b.from] {
			m.depths[b.from] = 0
		}
		for grown := true; grown; {
			grown = false
			for _, x := range b.instructions {
				depth, given := m.depths[x.at]
				if !given {
					continue
				}
				line := tellings[x.op]
				rest := depth - line.takes
				if line.operands == "sa" {
					rest -= x.operands[1]
				}
				if rest < 0 {
					return api.ErrStack
				}
				deepest = max(deepest, rest+line.left, rest+line.leap)
				behind := map[int]int{x.next: rest + line.left}
				if line.left < 0 {
					clear(behind)
				}
				if line.leap >= 0 {
					if was, both := behind[x.leads]; both && was != rest+line.leap {
						return api.ErrStack
					}
					behind[x.leads] = rest + line.leap
				}
				for at, d := range behind {
					was, there := m.depths[at]
					if there && was != d {
						return api.ErrStack
					}
					grown = grown || !there
					m.depths[at] = d
				}
			}
		}
	}
	if deepest != m.code.Stack {
		return api.ErrStack
	}
	return api.OK
}
