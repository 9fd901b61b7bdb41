package image

import (
	"slices"

	"kiln/api"
	"kiln/check"
)

// operands is how many an instruction has, by its operation.
var operands = [...]int{
	api.OpInt: 1, api.OpLit: 1, api.OpSym: 1, api.OpClass: 1,
	api.OpField: 1, api.OpTemp: 2, api.OpGlobal: 1,
	api.OpStoreField: 1, api.OpStoreTemp: 2, api.OpStoreGlobal: 1,
	api.OpSend: 2, api.OpSuper: 2, api.OpBlock: 3,
	api.OpJump: 1, api.OpIfTrue: 1, api.OpIfFalse: 1, api.OpBack: 1,
	api.OpFirst: 2, api.OpNext: 2,
}

// nowhere is the place of no body, and of no instruction.
const nowhere = -1

// body is what the code of a method, or of one of its blocks, is for.
type body struct {
	around        int // where the body begins in which its block stands; of the method's own: nowhere
	params, slots int
}

// layout is how a code's words fall into bodies, each of which is told by the
// place where it begins: no two begin at the same.
type layout struct {
	words  []int
	bodies map[int]body
	within []int // by the word: where the body begins whose instruction begins there
	depths []int // by the word: how deep the stack is there, if it is come to
}

// layout is that of the code of a method that is not stale.
func (s *survey) layout(method int) layout {
	if l, there := s.layouts[method]; there {
		return l
	}
	code := s.codes[method]
	// The code was just made of its source: so it is taken, in the widest bounds.
	depths, e := check.Depths(code, api.Bounds{
		Fields:  api.MaxFields,
		Classes: api.MaxClasses,
		Globals: api.MaxGlobals,
		Symbols: s.symbols.Count(),
	})
	demand(e == api.OK)
	l := layout{
		words:  code.Words,
		bodies: map[int]body{0: {nowhere, code.Args, code.Temps}},
		within: slices.Repeat([]int{nowhere}, len(code.Words)),
		depths: depths,
	}
	l.read(0, len(code.Words))
	s.layouts[method] = l
	return l
}

// read reads the instructions of a body, and those of the blocks in it.
func (l layout) read(start, end int) {
	for at := start; at < end; {
		l.within[at] = start
		next := at + 1 + operands[l.words[at]]
		if l.words[at] == api.OpBlock {
			block := next
			next += l.words[at+3]
			l.bodies[block] = body{start, l.words[at+1], l.words[at+2]}
			l.read(block, next)
		}
		at = next
	}
}

// block is the body of a block that stands in another one.
func (l layout) block(start, around int) (body, bool) {
	b, there := l.bodies[start]
	return b, there && b.around == around
}

// comes tells whether an instruction of a body begins at a place to which one
// comes with a stack so deep.
func (l layout) comes(start, pc, depth int) bool {
	return pc < len(l.words) && l.within[pc] == start && l.depths[pc] == depth
}
