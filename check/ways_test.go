package check_test

import (
	"math"
	"testing"

	"kiln/api"
)

// P11.1, 5: a jump on leads to each instruction of its body that stands behind it,
// and to no other word.
func TestJumpsOn(t *testing.T) {
	// Behind a return stand instructions that leave the stack as they like.
	tail := join(words(5, 7), block(0, 0, 2, 22), words(10, 0, 0, 1, 23, 0, 20))
	firsts := map[int]bool{0: true, 2: true, 8: true, 11: true, 12: true, 14: true}
	for _, jump := range [][]int{{23}, {24}, {25}, {27, 0}} {
		for far := -9; far <= len(tail)+3; far++ {
			e := api.ErrJump
			if firsts[far] {
				e = api.OK
			}
			wantSlots(t, e, 1, 1, join(words(1, 20), jump, words(far), tail)...)
			wantSlots(t, e, 1, 1, join(block(0, 1, join(words(1, 22), jump, words(far), tail[:14], words(22))...), words(20))...)
		}
		for _, far := range wild() {
			wantSlots(t, api.ErrJump, 1, 1, join(words(1, 20), jump, words(far), tail)...)
		}
	}
}

// wild are numbers of words that wrap round, or come near to it.
func wild() []int {
	list := []int{1 << 31, -1 << 31, 1 << 32, -1 << 32, 1<<32 + 2, 1 << 62, -1 << 62, 4096, -4096}
	for i := range 20 {
		list = append(list, math.MinInt+i, math.MaxInt-i)
	}
	return list
}

// P11.1, 5: a jump back leads to each instruction of its body that stands ahead of it.
func TestJumpsBack(t *testing.T) {
	head := join(words(1, 20, 5, 7), block(0, 0, 2, 22), words(10, 0, 0, 1))
	firsts := map[int]bool{0: true, 1: true, 2: true, 4: true, 10: true, 13: true}
	for _, jump := range [][]int{{26}, {28, 0}} {
		end := len(head) + len(jump) + 1
		for far := -4; far <= end+4; far++ {
			e := api.ErrJump
			if firsts[end-far] {
				e = api.OK
			}
			wantSlots(t, e, 1, 1, join(head, jump, words(far, 1, 2))...)
			wantSlots(t, e, 1, 1, join(block(0, 1, join(words(1, 22), head[2:], jump, words(far, 2))...), words(20))...)
		}
		for _, far := range wild() {
			wantSlots(t, api.ErrJump, 1, 1, join(head, jump, words(far, 20))...)
		}
	}
}

// P11.1, 5: a jump stays in its body.
func TestJumpsStay(t *testing.T) {
	wantWords(t, api.OK, 1, 20, 23, 6, 19, 0, 0, 2, 2, 22, 1)
	for _, far := range words(1, 2, 3, 4, 5) {
		wantWords(t, api.ErrJump, 1, 20, 23, far, 19, 0, 0, 2, 2, 22, 1)
	}
	// out of a block, on and back
	wantWords(t, api.ErrJump, join(block(0, 0, 23, 0), words(1, 20))...)
	wantWords(t, api.ErrJump, join(block(0, 0, 2, 22, 23, 0), words(20))...)
	wantWords(t, api.ErrJump, join(block(0, 0, 2, 22, 23, 1, 1), words(20, 20))...)
	wantWords(t, api.ErrJump, join(block(0, 0, 2, 22, 26, 8), words(20))...)
	wantWords(t, api.OK, join(block(0, 0, 2, 22, 26, 4), words(20))...)
	wantWords(t, api.ErrJump, join(words(1, 20), block(0, 0, 2, 22, 26, 10), words(20))...)
	// from one block to another, on and back
	wantWords(t, api.ErrJump, join(block(0, 0, 2, 22, 23, 4), block(0, 0, 2, 22), words(15, 20))...)
	wantWords(t, api.ErrJump, join(block(0, 0, 2, 22), block(0, 0, 2, 22, 26, 10), words(15, 20))...)
	// into a block of a block
	wantWords(t, api.ErrJump, join(block(0, 0, join(words(2, 22, 23, 4), block(0, 0, 2, 22))...), words(20))...)
	wantWords(t, api.OK, join(block(0, 0, join(words(2, 22, 23, 0), block(0, 0, 2, 22))...), words(20))...)
	wantWords(t, api.ErrJump, join(block(0, 0, join(block(0, 0, 2, 22), words(22, 26, 5))...), words(20))...)
	wantWords(t, api.OK, join(block(0, 0, join(block(0, 0, 2, 22), words(22, 26, 9))...), words(20))...)
}

// P11.1, 5: all instructions are looked at ahead of all jumps.
func TestJumpsLast(t *testing.T) {
	wantWords(t, api.ErrOpcode, 23, 9, 1, 20, 0)
	wantWords(t, api.ErrOperand, 23, 9, 9, 2, 20)
	wantWords(t, api.ErrJump, 23, 9, 1)
	wantWords(t, api.ErrJump, 20, 23, 9)
	wantWords(t, api.ErrJump, join(block(0, 0, 23, 9, 22), words(20))...)
}

// P11.1, 6: where one can go on at the end of a body.
func TestEnds(t *testing.T) {
	wantCode(t, api.ErrEnd, api.Code{})
	wantCode(t, api.ErrEnd, api.Code{Stack: 256, Words: words()})
	going := [][]int{{1}, {2}, {3}, {4}, {5, 7}, {6, 0}, {7, 2}, {8, 1}, {9, 1}, {10, 0, 0}, {11, 0}, {12, 0}, {13, 0, 0}, {14, 0}, {15}, {16}, {17, 1, 0}, {18, 1, 0}, {19, 0, 0, 2, 2, 22}, {28, 0, 4}}
	for _, w := range going {
		wantCode(t, api.ErrEnd, offered(join(words(1), w)...))
		wantCode(t, api.ErrEnd, offered(join(block(0, 1, join(words(1), w)...), words(20))...))
		wantCode(t, api.ErrEnd, offered(join(block(0, 0, join(block(0, 1, join(words(1), w)...), words(22))...), words(20))...))
		// not come to
		wantCode(t, api.OK, offered(join(words(1, 20, 1), w)...))
		wantCode(t, api.OK, offered(join(block(0, 1, join(words(1, 22, 1), w)...), words(20))...))
		wantCode(t, api.OK, offered(join(words(1, 20), block(0, 1, join(words(1), w)...))...))
		// come to by a jump alone
		wantCode(t, api.ErrEnd, offered(join(words(1, 23, 1, 20), w)...))
		wantCode(t, api.ErrEnd, offered(join(words(1, 25, 1, 20), w)...))
	}
	// jumps that stop, or of which one way alone stays
	wantWords(t, api.ErrEnd, 23, 0, 2)
	wantSlots(t, api.ErrEnd, 1, 2, 1, 2, 27, 0, 0, 2)
	wantWords(t, api.OK, 2, 15, 26, 4)
	wantSlots(t, api.ErrEnd, 1, 1, 2, 28, 0, 4)
}

// P11.1, 6: an end goes ahead of whatever is wrong with the stack.
func TestEndsAheadOfStacks(t *testing.T) {
	wantStack(t, api.ErrEnd, 9, 1)
	wantStack(t, api.ErrEnd, 0, 15)
	wantStack(t, api.ErrEnd, 0, 15, 15, 15, 17, 0, 8, 2)
	wantStack(t, api.ErrEnd, 1, 3, 25, 1, 2, 1)
	wantStack(t, api.ErrEnd, 1, 15, 25, 1, 20, 15)
	wantStack(t, api.ErrEnd, 1, join(words(15), block(0, 0, 2), words(20))...)
	wantStack(t, api.ErrEnd, 1, block(0, 0, 15, 22)...)
	wantStack(t, api.ErrStack, 1, 15, 1, 20)
	wantStack(t, api.ErrStack, 1, 15, 1, 20, 1)
	// A loop that takes more each time is gone through once.
	wantStack(t, api.ErrStack, 1, 15, 26, 3)
	wantStack(t, api.ErrStack, 1, 1, 26, 3)
	wantStack(t, api.ErrStack, 0, 15, 23, 0, 26, 5)
}

// P11.1, 7: no instruction takes more than there is.
func TestTakes(t *testing.T) {
	taking := []struct {
		takes, stack  int // the latter where just so much is there
		words, behind []int
	}{
		{1, 1, words(12, 0), words(20)}, {1, 1, words(13, 0, 0), words(20)}, {1, 1, words(14, 0), words(20)},
		{1, 1, words(15), words(1, 20)}, {1, 2, words(16), words(15, 20)}, {1, 1, words(20), nil},
		{1, 1, words(24, 0), words(1, 20)}, {1, 1, words(25, 0), words(1, 20)},
		{2, 2, words(27, 0, 1), words(20, 1, 20)},
		{1, 1, words(17, 0, 0), words(20)}, {2, 2, words(17, 0, 1), words(20)}, {9, 9, words(17, 0, 8), words(20)},
		{1, 1, words(18, 0, 0), words(20)}, {4, 4, words(18, 0, 3), words(20)}, {9, 9, words(18, 0, 8), words(20)},
	}
	for _, w := range taking {
		code := func(there int) []int { return join(times(there, 1), w.words, w.behind) }
		wantSlots(t, api.OK, 1, w.stack, code(w.takes)...)
		for there := range w.takes {
			for stack := range 11 {
				wantSlots(t, api.ErrStack, 1, stack, code(there)...)
			}
		}
	}
	for _, op := range words(21, 22) {
		wantWords(t, api.ErrStack, join(block(0, 0, op), words(20))...)
		wantWords(t, api.ErrStack, join(words(1), block(0, 0, op), words(20))...)
		wantWords(t, api.ErrStack, join(block(0, 0, 15, 2, op), words(20))...)
	}
	// First takes two on both ways, Next one, and leaves it where it jumps.
	wantSlots(t, api.OK, 1, 2, 1, 2, 27, 0, 1, 20, 1, 20)
	wantSlots(t, api.OK, 1, 3, 1, 2, 1, 27, 0, 1, 20, 20)
	wantSlots(t, api.ErrStack, 1, 2, 1, 2, 27, 0, 1, 20, 20)
	wantSlots(t, api.ErrStack, 1, 1, 2, 27, 0, 0, 1, 20)
	wantSlots(t, api.OK, 1, 1, 2, 23, 0, 28, 0, 5, 1, 20)
	wantSlots(t, api.ErrStack, 1, 1, 2, 23, 0, 28, 0, 6, 1, 20)
	wantSlots(t, api.ErrStack, 1, 1, 2, 15, 28, 0, 5, 1, 20)
}

// P11.1, 7: every way to an instruction agrees.
func TestWaysAgree(t *testing.T) {
	wantWords(t, api.OK, 3, 25, 3, 1, 23, 1, 2, 20)
	wantStack(t, api.ErrStack, 1, 3, 25, 2, 23, 1, 2, 20)
	wantStack(t, api.ErrStack, 2, 3, 25, 4, 1, 1, 23, 1, 2, 20)
	wantStack(t, api.OK, 2, 3, 25, 5, 1, 1, 15, 23, 1, 2, 20)
	// back, with one cell more or less each time
	wantStack(t, api.ErrStack, 1, 2, 26, 3)
	wantStack(t, api.ErrStack, 2, 1, 2, 26, 3)
	wantStack(t, api.ErrStack, 2, 1, 2, 15, 15, 26, 5)
	wantStack(t, api.OK, 2, 1, 2, 15, 26, 4)
	// to the first instruction of a body with something on the stack
	wantStack(t, api.ErrStack, 1, 1, 26, 3)
	wantStack(t, api.ErrStack, 1, join(block(0, 0, 1, 26, 3), words(20))...)
	wantStack(t, api.OK, 1, join(block(0, 0, 1, 15, 26, 4), words(20))...)
	// both ways of a condition to one place
	wantWords(t, api.OK, 1, 25, 0, 1, 20)
	// First: one on the way on, none on the way of the jump
	wantSlots(t, api.ErrStack, 1, 2, 1, 2, 27, 0, 0, 15, 1, 20)
	// What is not come to agrees with nobody, and need not.
	wantWords(t, api.OK, 1, 20, 15, 23, 1, 1, 15, 26, 7)
	wantWords(t, api.OK, 1, 20, 1, 26, 4)
	wantWords(t, api.OK, 1, 20, 1, 1, 20)
	// A block's instructions do not see the stack around it, nor the other way round.
	wantStack(t, api.OK, 2, join(words(1), block(0, 0, 2, 22), words(15, 20))...)
	wantStack(t, api.OK, 2, join(block(0, 0, 2, 2, 15, 22), words(20))...)
	wantStack(t, api.ErrStack, 2, join(words(1), block(0, 0, 15, 2, 22), words(15, 20))...)
	wantStack(t, api.ErrStack, 1, join(block(0, 0, 2, 22), words(15, 20))...)
}

// P11.1, 7: Stack is the greatest depth, neither more nor less.
func TestStack(t *testing.T) {
	wantStack(t, api.OK, 256, join(times(256, 1), words(20))...)
	wantStack(t, api.ErrStack, 255, join(times(256, 1), words(20))...)
	wantStack(t, api.ErrStack, 256, join(times(255, 1), words(20))...)
	wantStack(t, api.ErrStack, 256, join(times(257, 1), words(20))...)
	wantStack(t, api.ErrOperand, 257, join(times(257, 1), words(20))...)
	wantStack(t, api.ErrStack, 256, join(times(4095, 1), words(20))...)
	// no instruction leaves anything
	loop := words(23, 0, 26, 4)
	wantStack(t, api.OK, 0, loop...)
	wantStack(t, api.ErrStack, 1, loop...)
	wantDepths(t, stacked(0, loop...), 0, -1, 0, -1)
	// of all bodies that are come to, and of these alone
	wantStack(t, api.OK, 3, join(block(0, 0, 2, 2, 2, 22), words(20))...)
	wantStack(t, api.ErrStack, 1, join(block(0, 0, 2, 2, 2, 22), words(20))...)
	wantStack(t, api.OK, 1, join(words(1, 20), block(0, 0, 2, 2, 2, 22))...)
	wantStack(t, api.ErrStack, 3, join(words(1, 20), block(0, 0, 2, 2, 2, 22))...)
	wantStack(t, api.OK, 1, 1, 20, 1, 1, 1)
	// behind a block, and behind an instruction that leads to another by a jump alone
	wantStack(t, api.OK, 2, join(words(1), block(0, 0, 2, 22), words(20))...)
	wantStack(t, api.OK, 2, 1, 16, 23, 0, 20)
}

// P11.1: a clause goes ahead of those behind it.
func TestOrder(t *testing.T) {
	bad := api.Code{Args: 9, Temps: 3, Stack: 300, Literals: make([]api.Lit, 65), Words: words(23, 9, 9, 99, 0)}
	wantCode(t, api.ErrLong, bad)
	bad.Literals = []api.Lit{array(api.Lit{})}
	wantCode(t, api.ErrOperand, bad)
	bad.Args, bad.Stack, bad.Literals = 0, 7, crowd(4097)
	wantCode(t, api.ErrLong, bad)
	bad.Literals = nil
	wantCode(t, api.ErrOperand, bad)
	bad.Words = words(23, 9, 9, 1, 0)
	wantCode(t, api.ErrOpcode, bad)
	bad.Words = words(23, 9, 9, 1)
	wantCode(t, api.ErrJump, bad)
	bad.Words = words(23, 0, 9, 1)
	wantCode(t, api.ErrEnd, bad)
	bad.Words = words(23, 0, 9, 1, 20)
	wantCode(t, api.ErrStack, bad)
	bad.Stack = 1
	wantCode(t, api.OK, bad)
}

// P11.2: the depths of what is come to, -1 elsewhere.
func TestDepths(t *testing.T) {
	wantDepths(t, stacked(1, 3, 25, 2, 1, 20, 2, 20), 0, 1, -1, 0, 1, 0, 1)
	wantDepths(t, stacked(2, 5, 7, 16, 17, 0, 1, 20), 0, -1, 1, 2, -1, -1, 1)
	wantDepths(t, api.Code{Temps: 3, Stack: 2, Words: words(5, 1, 5, 3, 27, 2, 5, 2, 15, 28, 2, 5, 2, 20)}, 0, -1, 1, -1, 2, -1, -1, 1, 2, 1, -1, -1, 0, 1)
	// what is not come to
	wantDepths(t, stacked(1, 1, 20, 1, 15, 20), 0, 1, -1, -1, -1)
	wantDepths(t, stacked(1, 1, 20, 19, 0, 0, 2, 2, 22, 20), 0, 1, -1, -1, -1, -1, -1, -1, -1)
	wantDepths(t, stacked(1, 1, 23, 1, 15, 20), 0, 1, -1, -1, 1)
	// blocks in one another: each begins anew
	wantDepths(t, stacked(3, join(words(1, 1), block(0, 0, join(words(2), block(0, 0, 2, 22), words(22))...), words(20))...),
		0, 1, 2, -1, -1, -1, 0, 1, -1, -1, -1, 0, 1, 2, 3)
	// two ways to one place, one of them back
	wantDepths(t, stacked(2, 1, 3, 24, 4, 2, 15, 26, 7, 20), 0, 1, 2, -1, 1, 2, 1, -1, 1)
}
