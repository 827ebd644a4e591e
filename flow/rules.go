package flow

import (
	"slices"

	"intaglio/api"
	"intaglio/code"
)

// opPhi is the operation of a phi.
const opPhi = 245

// point is an instruction of a block.
type point struct {
	api.Inst
	block int
	at    int
}

// rule is one of the rules: the error where it does not hold, and whether it does.
type rule struct {
	err   api.Errno
	holds func(p point) bool
}

// check tells the first instruction of which a rule does not hold.
func (b *body) check() api.Spot {
	rules := []rule{{api.ErrScope, b.staysWithin}, {api.ErrPhi, b.hasParents}, {api.ErrUse, b.namesMade}, {api.ErrUse, b.takesMade}}
	for n, block := range b.blocks {
		for at := block.From; at < block.To; at++ {
			p := point{Inst: b.Insts[at], block: n, at: at}
			for _, r := range rules {
				if !r.holds(p) {
					return api.Spot{Err: r.err, At: at}
				}
			}
		}
	}
	return api.Spot{}
}

// staysWithin says whether an instruction names nothing of other functions.
func (b *body) staysWithin(p point) bool { return !slices.ContainsFunc(code.Ids(p.Inst), b.isOthers) }

// hasParents says whether the parents of a phi are the blocks ahead.
func (b *body) hasParents(p point) bool {
	if p.Op != opPhi {
		return true
	}
	var parents, ahead []uint32
	for _, parent := range pairs(p.Inst) {
		parents = append(parents, parent)
	}
	for _, i := range b.graph.Ahead(p.block) {
		ahead = append(ahead, b.blocks[i].Label)
	}
	slices.Sort(parents)
	slices.Sort(ahead)
	return slices.Equal(parents, ahead)
}

// namesMade says whether what an instruction names that is no phi is made ahead of it.
func (b *body) namesMade(p point) bool {
	return p.Op == opPhi || !slices.ContainsFunc(code.Ids(p.Inst), func(id uint32) bool { return !b.isMade(id, p.block, p.at) })
}

// takesMade says whether the values of a phi whose parents are blocks are made at their ends.
func (b *body) takesMade(p point) bool {
	if p.Op != opPhi {
		return true
	}
	for value, parent := range pairs(p.Inst) {
		from := b.makers[parent].block
		if !b.isMade(value, from, b.blocks[from].To) {
			return false
		}
	}
	return true
}

// isOthers says whether an id is made in another function.
func (b *body) isOthers(id uint32) bool {
	made, is := b.makers[id]
	return is && made.function != b.number
}

// own is where an id is made that is one of the function's; false, if it is none. (Its blocks' labels are none.)
func (b *body) own(id uint32) (maker, bool) {
	made, is := b.makers[id]
	if !is || made.function != b.number || made.label {
		return maker{}, false
	}
	return made, true
}

// isMade says whether an id is made on each way to a place in a block, if it is one of the function's.
func (b *body) isMade(id uint32, block, at int) bool {
	made, is := b.own(id)
	switch {
	case !is, made.block == none, !b.graph.Reached(block):
		return true
	case made.block == block:
		return made.at < at
	}
	return b.tree.Dominates(made.block, block)
}
