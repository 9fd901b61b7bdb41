package step

import "kiln/api"

// instruction is what is done for an operation's number.
type instruction struct {
	operands int
	do       func(r *runner) api.Errno // where it answers an error it has changed nothing

	event   string               // how it is told, if it is an event; "": it is none
	selects bool                 // it is told with its selector
	when    func(r *runner) bool // whether it is an event this time; nil: it always is
}

// table is the instructions by their numbers.
type table [api.OpNext + 1]instruction

// instructions is the table of all of them.
func instructions() table {
	return table{
		api.OpSelf:        {do: (*runner).self},
		api.OpNil:         {do: pushes(api.Nil)},
		api.OpTrue:        {do: pushes(api.True)},
		api.OpFalse:       {do: pushes(api.False)},
		api.OpInt:         {operands: 1, do: (*runner).integer},
		api.OpLit:         {operands: 1, do: (*runner).literal},
		api.OpSym:         {operands: 1, do: (*runner).symbol},
		api.OpClass:       {operands: 1, do: (*runner).class},
		api.OpField:       {operands: 1, do: (*runner).field},
		api.OpTemp:        {operands: 2, do: (*runner).temp},
		api.OpGlobal:      {operands: 1, do: (*runner).global},
		api.OpStoreField:  {operands: 1, do: stores((*runner).setField)},
		api.OpStoreTemp:   {operands: 2, do: stores((*runner).setTemp)},
		api.OpStoreGlobal: {operands: 1, do: stores((*runner).setGlobal)},
		api.OpPop:         {do: (*runner).pop},
		api.OpDup:         {do: (*runner).dup},
		api.OpSend:        {operands: 2, do: (*runner).send, event: "send ", selects: true},
		api.OpSuper:       {operands: 2, do: (*runner).sendSuper, event: "super ", selects: true},
		api.OpBlock:       {operands: 3, do: (*runner).block, event: "block"},
		api.OpReturn:      {do: (*runner).answer},
		api.OpHomeReturn:  {do: (*runner).answerHome},
		api.OpBlockReturn: {do: (*runner).answer},
		api.OpJump:        {operands: 1, do: (*runner).on},
		api.OpIfTrue:      {operands: 1, do: jumps(api.True, api.False)},
		api.OpIfFalse:     {operands: 1, do: jumps(api.False, api.True)},
		api.OpBack:        {operands: 1, do: (*runner).back, event: "jump"},
		api.OpFirst:       {operands: 2, do: (*runner).firstRound},
		api.OpNext:        {operands: 2, do: (*runner).nextRound, event: "jump", when: (*runner).goesRound},
	}
}

// at is the instruction of a number; of any other number it has nothing to do.
func (t *table) at(number int) instruction {
	if number < 0 || number >= len(t) {
		return instruction{}
	}
	return t[number]
}

// isEvent tells whether the instruction that is next is an event.
func (r *runner) isEvent(i instruction) bool {
	return i.event != "" && (i.when == nil || i.when(r))
}

// told is the text of the event that is next.
func (r *runner) told(i instruction) string {
	if !i.selects {
		return i.event
	}
	return i.event + r.selector()
}
