package listing

import "kiln/api"

// operation is what a listing tells of an operation, and how many operands it has.
type operation struct {
	name     string
	operands int
}

// operations is by their numbers; none has the number 0.
var operations = [...]operation{
	api.OpSelf:        {"self", 0},
	api.OpNil:         {"nil", 0},
	api.OpTrue:        {"true", 0},
	api.OpFalse:       {"false", 0},
	api.OpInt:         {"int", 1},
	api.OpLit:         {"lit", 1},
	api.OpSym:         {"sym", 1},
	api.OpClass:       {"class", 1},
	api.OpField:       {"field", 1},
	api.OpTemp:        {"temp", 2},
	api.OpGlobal:      {"global", 1},
	api.OpStoreField:  {"storefield", 1},
	api.OpStoreTemp:   {"storetemp", 2},
	api.OpStoreGlobal: {"storeglobal", 1},
	api.OpPop:         {"pop", 0},
	api.OpDup:         {"dup", 0},
	api.OpSend:        {"send", 2},
	api.OpSuper:       {"super", 2},
	api.OpBlock:       {"block", 3},
	api.OpReturn:      {"return", 0},
	api.OpHomeReturn:  {"homereturn", 0},
	api.OpBlockReturn: {"blockreturn", 0},
	api.OpJump:        {"jump", 1},
	api.OpIfTrue:      {"iftrue", 1},
	api.OpIfFalse:     {"iffalse", 1},
	api.OpBack:        {"back", 1},
	api.OpFirst:       {"first", 2},
	api.OpNext:        {"next", 2},
}

func isOperation(op int) bool { return op >= api.OpSelf && op <= api.OpNext }

// numberOf is that of the operation of a name; of any other text it is 0.
func numberOf(name string) int {
	for op := api.OpSelf; op <= api.OpNext; op++ {
		if operations[op].name == name {
			return op
		}
	}
	return 0
}

// areWhole tells whether words are whole instructions, one behind the other. The
// body of a block counts as the instructions behind it: so it is gone through
// as all others, however long the block says that it is.
func areWhole(words []int) bool {
	at := 0
	for at < len(words) {
		if !isOperation(words[at]) {
			return false
		}
		at += 1 + operations[words[at]].operands
	}
	return at == len(words)
}
