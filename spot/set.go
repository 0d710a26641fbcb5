package spot

import (
	"math/bits"

	"facsimile/api"
)

// mostSpots is how many spots an expression may have: for each but the first one it has a step that joins two parts.
const mostSpots = (api.MaxRx + 1) / 2

const wordBits = 64

// set is a set of spots.
type set [mostSpots / wordBits]uint64

// one returns the set of the spot i alone.
func one(i int) set {
	var s set
	s[i/wordBits] = 1 << (i % wordBits)
	return s
}

// has reports whether i is in s, for any i.
func (s set) has(i int) bool {
	return i >= 0 && i < mostSpots && s[i/wordBits]>>(i%wordBits)&1 == 1
}

// with returns the set of what is in s or in other.
func (s set) with(other set) set {
	for i := range s {
		s[i] |= other[i]
	}
	return s
}

// list returns the spots of s, increasing.
func (s set) list() []int {
	var l []int
	for i, word := range s {
		for ; word != 0; word &= word - 1 {
			l = append(l, i*wordBits+bits.TrailingZeros64(word))
		}
	}
	return l
}
