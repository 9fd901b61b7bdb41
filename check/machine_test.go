package check_test

import (
	"fmt"
	"math/rand"
	"slices"

	"kiln/api"
)

// machine runs bodies as chapter 10 says, as far as instructions, stacks and names
// go: which way a condition leads, and whether a block is activated, is a throw of
// the dice. It throws a text where a code does harm.
type machine struct {
	*rand.Rand
	code       api.Code
	fields     []int
	classes    []int
	globals    []int
	symbols    []int
	sinceEvent int // steps since the last event
}

type cell struct{}

// frame is a body that runs: its instructions by their places, and its stack.
type frame struct {
	firsts map[int]int // of each instruction of the body the place behind it
	scopes [][]int     // the slots of the scopes around, the own one last
	cells  []cell
	pc     int
}

func (m *machine) harm(f *frame, what string) {
	panic(fmt.Sprintf("at %d: %s", f.pc, what))
}

func (m *machine) pop(f *frame) {
	if len(f.cells) == 0 {
		m.harm(f, "taken from an empty stack")
	}
	f.cells = f.cells[:len(f.cells)-1]
}

func (m *machine) push(f *frame) {
	f.cells = append(f.cells, cell{})
	if len(f.cells) > m.code.Stack {
		m.harm(f, "deeper than its Stack")
	}
}

// firstsOf reads the places of a body's instructions.
func (m *machine) firstsOf(from, to int) map[int]int {
	firsts := map[int]int{}
	for at := from; at < to; {
		next := at + 1 + len(tellings[m.code.Words[at]].operands)
		if m.code.Words[at] == api.OpBlock {
			next += m.code.Words[at+3]
		}
		firsts[at] = next
		at = next
	}
	return firsts
}

// run runs a body for so many steps at most.
func (m *machine) run(from, to int, scopes [][]int, steps int) {
	f := &frame{firsts: m.firstsOf(from, to), scopes: scopes, pc: from}
	m.sinceEvent = 0
	for range steps {
		next, there := f.firsts[f.pc]
		if !there {
			m.harm(f, "no instruction of the body")
		}
		m.sinceEvent++
		if m.sinceEvent > len(m.code.Words) {
			m.harm(f, "more steps than words without an event")
		}
		if m.step(f, next, steps) {
			return
		}
	}
}

func (m *machine) event() { m.sinceEvent = 0 }

// step does one instruction; it tells whether the body returns.
func (m *machine) step(f *frame, next, steps int) bool {
	w := m.code.Words[f.pc:]
	switch w[0] {
	case api.OpSend, api.OpSuper:
		_ = m.symbols[w[1]]
		for range w[2] + 1 {
			m.pop(f)
		}
		m.push(f)
		m.event()
	case api.OpBlock:
		m.push(f)
		if m.Intn(2) == 0 {
			m.run(f.pc+4, f.pc+4+w[3], append(slices.Clone(f.scopes), make([]int, w[2])), steps/2)
		}
		m.event()
	case api.OpReturn, api.OpHomeReturn, api.OpBlockReturn:
		m.pop(f)
		return true
	case api.OpPop:
		m.pop(f)
	case api.OpDup:
		m.pop(f)
		m.push(f)
		m.push(f)
	case api.OpJump, api.OpIfTrue, api.OpIfFalse, api.OpBack, api.OpFirst, api.OpNext:
		f.pc = m.jump(f, w, next)
		return false
	default:
		m.name(f, w)
	}
	f.pc = next
	return false
}

// jump does an instruction that jumps; it answers where it leads.
func (m *machine) jump(f *frame, w []int, next int) int {
	jumps := m.Intn(2) == 0
	switch w[0] {
	case api.OpJump:
		return next + w[1]
	case api.OpBack:
		m.event()
		return next - w[1]
	case api.OpFirst:
		f.scopes[len(f.scopes)-1][w[1]]++
		m.pop(f)
		m.pop(f)
		if jumps {
			return next + w[2]
		}
		m.push(f)
		return next
	case api.OpNext:
		f.scopes[len(f.scopes)-1][w[1]]++
		m.pop(f)
		if jumps {
			m.push(f)
			m.event()
			return next - w[2]
		}
		return next
	}
	m.pop(f)
	if jumps {
		return next + w[1]
	}
	return next
}

// name does an instruction that pushes what it names, or stores there.
func (m *machine) name(f *frame, w []int) {
	switch w[0] {
	case api.OpLit:
		_ = m.code.Literals[w[1]]
	case api.OpSym:
		_ = m.symbols[w[1]]
	case api.OpClass:
		_ = m.classes[w[1]-1]
	case api.OpField, api.OpStoreField:
		_ = m.fields[w[1]]
	case api.OpGlobal, api.OpStoreGlobal:
		_ = m.globals[w[1]]
	case api.OpTemp, api.OpStoreTemp:
		_ = f.scopes[len(f.scopes)-1-w[1]][w[2]]
	}
	switch w[0] {
	case api.OpStoreField, api.OpStoreTemp, api.OpStoreGlobal:
		m.pop(f)
	}
	m.push(f)
}

// harmOf runs a code some times; it tells what harm it did, "" if none.
func harmOf(dice *rand.Rand, c api.Code, b api.Bounds) (harm string) {
	defer func() {
		if thrown := recover(); thrown != nil {
			harm = fmt.Sprint(thrown)
		}
	}()
	m := &machine{Rand: dice, code: c, fields: make([]int, max(b.Fields, 0)), classes: make([]int, max(b.Classes, 0)), globals: make([]int, max(b.Globals, 0)), symbols: make([]int, max(b.Symbols, 0))}
	for range 8 {
		m.run(0, len(c.Words), [][]int{make([]int, c.Temps)}, 400)
	}
	return ""
}
