package check

import "kiln/api"

// The kinds of instructions, by the ways that lead on from them.
const (
	noWay  = iota // what is no instruction
	goes          // to the next one
	enters        // to the next one; and the body of a block is come to
	stops         // nowhere
	leaps         // so many words on
	forks         // to the next one, or so many words on
	turns         // so many words back
	loops         // to the next one, or so many words back
)

// shape is what the instructions of one number have in common: their kind, how
// many operands they have, how many cells they take from the stack, and how many
// they leave on the way on and on the way of a jump.
type shape struct {
	kind, operands, takes, on, jump int
}

// shapes is by the number of the operation; a message takes its arguments besides.
var shapes = [...]shape{
	api.OpSelf:        {goes, 0, 0, 1, 0},
	api.OpNil:         {goes, 0, 0, 1, 0},
	api.OpTrue:        {goes, 0, 0, 1, 0},
	api.OpFalse:       {goes, 0, 0, 1, 0},
	api.OpInt:         {goes, 1, 0, 1, 0},
	api.OpLit:         {goes, 1, 0, 1, 0},
	api.OpSym:         {goes, 1, 0, 1, 0},
	api.OpClass:       {goes, 1, 0, 1, 0},
	api.OpField:       {goes, 1, 0, 1, 0},
	api.OpTemp:        {goes, 2, 0, 1, 0},
	api.OpGlobal:      {goes, 1, 0, 1, 0},
	api.OpStoreField:  {goes, 1, 1, 1, 0},
	api.OpStoreTemp:   {goes, 2, 1, 1, 0},
	api.OpStoreGlobal: {goes, 1, 1, 1, 0},
	api.OpPop:         {goes, 0, 1, 0, 0},
	api.OpDup:         {goes, 0, 1, 2, 0},
	api.OpSend:        {goes, 2, 1, 1, 0},
	api.OpSuper:       {goes, 2, 1, 1, 0},
	api.OpBlock:       {enters, 3, 0, 1, 0},
	api.OpReturn:      {stops, 0, 1, 0, 0},
	api.OpHomeReturn:  {stops, 0, 1, 0, 0},
	api.OpBlockReturn: {stops, 0, 1, 0, 0},
	api.OpJump:        {leaps, 1, 0, 0, 0},
	api.OpIfTrue:      {forks, 1, 1, 0, 0},
	api.OpIfFalse:     {forks, 1, 1, 0, 0},
	api.OpBack:        {turns, 1, 0, 0, 0},
	api.OpFirst:       {forks, 2, 2, 1, 0},
	api.OpNext:        {loops, 2, 1, 0, 1},
}

// shapeOf is that of an operation; of a number that no operation has its kind is noWay.
func shapeOf(op int) shape {
	if !within(op, api.OpSelf, api.OpNext) {
		return shape{}
	}
	return shapes[op]
}
