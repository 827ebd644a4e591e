package ids

import (
	"intaglio/api"
	"intaglio/code"
)

// pairs are ids of a module and of another one, each in one pair at most: there by those of the one, back by those of the other.
type pairs struct {
	there, back map[uint32]uint32
}

// pairsOf pairs the ids of instructions with those of as many others, in the order in which they stand; false, if that does not go.
func pairsOf(a, b []api.Inst) (pairs, bool) {
	p := pairs{there: map[uint32]uint32{}, back: map[uint32]uint32{}}
	for at := range a {
		x, y := allIds(a[at]), allIds(b[at])
		if len(x) != len(y) {
			return pairs{}, false
		}
		for k := range x {
			if !p.join(x[k], y[k]) {
				return pairs{}, false
			}
		}
	}
	return p, true
}

// join makes a pair of two ids, and says whether that goes: neither may be in another pair.
func (p pairs) join(a, b uint32) bool {
	b1, hasA := p.there[a]
	a1, hasB := p.back[b]
	if !hasA && !hasB {
		p.there[a], p.back[b] = b, a
		return true
	}
	return a1 == a && b1 == b
}

// allIds are the ids that an instruction names, and the one that it makes, if it makes one.
func allIds(i api.Inst) []uint32 {
	l := code.Ids(i)
	if i.Result != 0 {
		l = append(l, i.Result)
	}
	return l
}
