package check

import "kiln/api"

// place is what is known of the instruction that begins at a word.
type place struct {
	op   int // its operation; 0: no instruction begins here
	body int // the number of the body that it stands in, from 1 on
	args int // how many arguments it takes from the stack
	end  int // the word behind its operands
	next int // the word behind it, and behind the body of its block
	to   int // the word to which it jumps
}

// reader reads the instructions of a code.
type reader struct {
	words    []int
	literals int
	bounds   api.Bounds
	scopes   []int   // how many slots the scopes around have, the method's first
	bodies   int     // how many were begun
	places   []place // by the word
}

func newReader(c api.Code, b api.Bounds) *reader {
	return &reader{
		words:    c.Words,
		literals: len(c.Literals),
		bounds:   b,
		scopes:   []int{c.Temps},
		places:   make([]place, len(c.Words)),
	}
}

// blocks is how many blocks are around.
func (r *reader) blocks() int { return len(r.scopes) - 1 }

// read reads the body that lies between two words, with its blocks.
func (r *reader) read(from, to int) api.Errno {
	r.bodies++
	body := r.bodies
	for at := from; at < to; at = r.places[at].next {
		p, e := r.instruction(at, to)
		if e != api.OK {
			return e
		}
		p.body = body
		r.places[at] = p
		if p.op != api.OpBlock {
			continue
		}
		if e := r.block(at); e != api.OK {
			return e
		}
	}
	return api.OK
}

// block reads the body of the block whose instruction begins at a word.
func (r *reader) block(at int) api.Errno {
	r.scopes = append(r.scopes, r.words[at+2])
	e := r.read(r.places[at].end, r.places[at].next)
	r.scopes = r.scopes[:r.blocks()]
	return e
}

// instruction reads the one that begins at a word of a body that ends at another.
func (r *reader) instruction(at, bodyEnd int) (place, api.Errno) {
	p := place{op: r.words[at]}
	s := shapeOf(p.op)
	p.end = at + 1 + s.operands
	if s.kind == noWay || p.end > bodyEnd || !r.mayStand(p.op) {
		return place{}, api.ErrOpcode
	}
	operands := r.words[at+1 : p.end]
	p.next = p.end
	switch p.op {
	case api.OpBlock:
		if operands[2] > bodyEnd-p.end {
			return place{}, api.ErrOpcode
		}
		p.next += operands[2]
	case api.OpSend, api.OpSuper:
		p.args = operands[1]
	}
	if !r.fit(p.op, operands) {
		return place{}, api.ErrOperand
	}
	return p, api.OK
}

// mayStand tells whether an operation may stand in the body that is read.
func (r *reader) mayStand(op int) bool {
	switch op {
	case api.OpReturn:
		return r.blocks() == 0
	case api.OpHomeReturn, api.OpBlockReturn:
		return r.blocks() > 0
	}
	return true
}

// fit tells whether an operation's operands are within what there is; how far a
// jump leads is not asked here.
func (r *reader) fit(op int, operands []int) bool {
	switch op {
	case api.OpInt:
		return within(operands[0], api.LeastInt, api.MostInt)
	case api.OpLit:
		return below(operands[0], r.literals)
	case api.OpSym:
		return below(operands[0], r.bounds.Symbols)
	case api.OpClass:
		return within(operands[0], 1, r.bounds.Classes)
	case api.OpField, api.OpStoreField:
		return below(operands[0], r.bounds.Fields)
	case api.OpGlobal, api.OpStoreGlobal:
		return below(operands[0], r.bounds.Globals)
	case api.OpTemp, api.OpStoreTemp:
		return r.isSlot(operands[0], operands[1])
	case api.OpFirst, api.OpNext:
		return r.isSlot(0, operands[0])
	case api.OpSend, api.OpSuper:
		return below(operands[0], r.bounds.Symbols) && within(operands[1], 0, api.MaxArgs)
	case api.OpBlock:
		return isScope(operands[0], operands[1]) && operands[2] > 0 && r.blocks() < api.MaxNest
	}
	return true
}

// isSlot tells whether the scope so many scopes outward has such a slot.
func (r *reader) isSlot(outward, slot int) bool {
	return within(outward, 0, r.blocks()) && below(slot, r.scopes[r.blocks()-outward])
}

// nowhere is where a jump leads that may not lead there.
const nowhere = -1

// jumpsLand puts in where the jumps lead; it tells whether each leads to an
// instruction of its own body.
func (r *reader) jumpsLand() bool {
jumps:
	for at := range r.places {
		p := &r.places[at]
		switch shapeOf(p.op).kind {
		case leaps, forks:
			p.to = r.onward(p)
		case turns, loops:
			p.to = r.backward(p, at)
		default:
			continue jumps
		}
		if p.to == nowhere || r.places[p.to].body != p.body {
			return false
		}
	}
	return true
}

// onward and backward hold how far a jump leads, which may be any number, against
// the words there are ahead of adding it: so nothing wraps round.

func (r *reader) onward(p *place) int {
	far := r.words[p.end-1]
	if !below(far, len(r.words)-p.end) {
		return nowhere
	}
	return p.end + far
}

func (r *reader) backward(p *place, at int) int {
	far := r.words[p.end-1]
	if !within(far, p.end-at+1, p.end) {
		return nowhere
	}
	return p.end - far
}
