package heap

import "math/bits"

// wordBits is how many numbers one word of a set tells of.
const wordBits = 64

// numbers is a set of numbers from 1 on, one bit each: so the lowest one that
// is not in it is found by looking at few words, however many are.
type numbers struct {
	bits  []uint64
	low   int // all numbers of the words ahead of this one are in the set
	count int
}

// lowest is the lowest number that is not in the set.
func (s *numbers) lowest() int {
	for s.low < len(s.bits) && s.bits[s.low] == ^uint64(0) {
		s.low++
	}
	if s.low == len(s.bits) {
		return s.low*wordBits + 1
	}
	return s.low*wordBits + bits.TrailingZeros64(^s.bits[s.low]) + 1
}

// add puts a number into the set that is not in it.
func (s *numbers) add(k int) {
	i := (k - 1) / wordBits
	for len(s.bits) <= i {
		s.bits = append(s.bits, 0)
	}
	s.bits[i] |= bit(k)
	s.count++
}

// remove takes a number out of the set that is in it.
func (s *numbers) remove(k int) {
	i := (k - 1) / wordBits
	s.bits[i] &^= bit(k)
	s.low = min(s.low, i)
	s.count--
}

func bit(k int) uint64 { return 1 << ((k - 1) % wordBits) }
