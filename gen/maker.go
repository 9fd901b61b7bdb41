package gen

import (
	"kiln/api"
	"kiln/symbol"
)

// maker goes through a tree, and lays code as it comes to its nodes.
type maker struct {
	table    *symbol.Table
	code     api.Code
	kinds    [api.BoundBody + 1]kind
	scopes   []int // how many slots each real scope around has, the method's first
	elements int   // of all literal arrays
	depth    int   // of the body's stack; where nothing comes to it does not count
	come     bool  // whether the next instruction is come to
}

func newMaker(t *symbol.Table) *maker {
	g := &maker{table: t, come: true}
	g.kinds = g.allKinds()
	return g
}

// changes is by how much deeper each instruction makes the stack, where it goes
// on with the next one; a message takes its arguments away besides.
var changes = [...]int{
	api.OpSelf: 1, api.OpNil: 1, api.OpTrue: 1, api.OpFalse: 1,
	api.OpInt: 1, api.OpLit: 1, api.OpSym: 1, api.OpClass: 1,
	api.OpField: 1, api.OpTemp: 1, api.OpGlobal: 1,
	api.OpPop: -1, api.OpDup: 1, api.OpBlock: 1,
	api.OpReturn: -1, api.OpHomeReturn: -1, api.OpBlockReturn: -1,
	api.OpIfTrue: -1, api.OpIfFalse: -1, api.OpFirst: -1, api.OpNext: -1,
}

// goesOn tells whether one may come from an instruction to the next one.
func goesOn(op int) bool {
	switch op {
	case api.OpReturn, api.OpHomeReturn, api.OpBlockReturn, api.OpJump, api.OpBack:
		return false
	}
	return true
}

// put lays an instruction; at is the place of the node for which it is laid.
func (g *maker) put(at, op int, operands ...int) {
	if g.here()+1+len(operands) > api.MaxCode {
		refuse(api.ErrLong, at)
	}
	g.code.Words = append(append(g.code.Words, op), operands...)
	g.depth += changes[op]
	if op == api.OpSend || op == api.OpSuper {
		g.depth -= operands[1]
	}
	if g.come && g.depth > api.MaxStack {
		refuse(api.ErrLong, at)
	}
	if g.come {
		g.code.Stack = max(g.code.Stack, g.depth)
	}
	g.come = g.come && goesOn(op)
}

// here is the place of the next instruction.
func (g *maker) here() int { return len(g.code.Words) }

// length lays an instruction whose last operand is how many words it is from its
// end to another place; what it answers is called at that place, and puts this in.
func (g *maker) length(at, op int, operands ...int) func() {
	g.put(at, op, append(operands, 0)...)
	end := g.here()
	return func() { g.code.Words[end-1] = g.here() - end }
}

// forward lays a jump; what it answers is called where the jump leads.
func (g *maker) forward(at, op int, operands ...int) func() {
	come := g.come
	land := g.length(at, op, operands...)
	depth := g.depth
	if op == api.OpFirst {
		// Where it jumps it takes both numbers away.
		depth--
	}
	return func() {
		land()
		if come {
			g.come, g.depth = true, depth
		}
	}
}

// backward answers what lays a jump that leads to where backward was called.
func (g *maker) backward() func(at, op int, operands ...int) {
	start := g.here()
	return func(at, op int, operands ...int) {
		end := g.here() + 1 + len(operands) + 1
		g.put(at, op, append(operands, end-start)...)
	}
}

// symbolOf is the number of the symbol of a node's text.
func (g *maker) symbolOf(n *api.Bound) int {
	number, e := g.table.Add(n.Text)
	if e != api.OK {
		refuse(e, n.At)
	}
	return number
}
