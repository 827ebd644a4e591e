package flow

import (
	"math/bits"
	"slices"
)

// wide is for how many ids a word of a set stands.
const wide = 64

// set is ids: words of bits, by the ids' numbers through wide. Ids that are wanted together mostly stand near one another, so that a set of very many does not take much room.
type set map[uint32]uint64

// newSets are so many sets of nothing.
func newSets(n int) []set {
	l := make([]set, n)
	for i := range l {
		l[i] = set{}
	}
	return l
}

// add puts an id into a set.
func (s set) add(id uint32) { s[id/wide] |= 1 << (id % wide) }

// grow puts more ids into a set, but for some; those that were not in it are put into fresh, too.
func (s set) grow(more, but, fresh set) {
	for at, word := range more {
		if word &^= but[at] | s[at]; word != 0 {
			s[at] |= word
			fresh[at] |= word
		}
	}
}

// rising are the ids of a set.
func (s set) rising() []uint32 {
	var l []uint32
	for at, word := range s {
		for ; word != 0; word &= word - 1 {
			l = append(l, at*wide+uint32(bits.TrailingZeros64(word)))
		}
	}
	slices.Sort(l)
	return l
}
