package flow

import (
	"slices"

	"intaglio/api"
	"intaglio/layout"
)

// dice are numbers that look like chance, and are the same at every run.
type dice uint64

// below is a number below n.
func (d *dice) below(n int) int {
	*d = *d*6364136223846793005 + 1442695040888963407
	return int(uint64(*d)>>33) % n
}

// oneOf is one of some numbers.
func (d *dice) oneOf(l ...uint32) uint32 { return l[d.below(len(l))] }

// renaming are the numbers of a renaming.
func (d *dice) renaming(bound uint32) []uint32 {
	to := make([]uint32, bound)
	for i := range to {
		to[i] = uint32(i)
	}
	for i := len(to) - 1; i > 1; i-- {
		k := 1 + d.below(i)
		to[i], to[k] = to[k], to[i]
	}
	return to
}

// The ids that modules by chance have outside of their functions: the types of nothing, of truths, of functions, and a value. An argument that is not chosen yet is open; nothing else names that.
const (
	nothingType  = 1
	truthType    = 2
	functionType = 3
	someTruth    = 4
	open         = 5
	firstFree    = 6
)

// grower makes a module: first the blocks and where they lead, with open arguments, and then these. One of so many is chosen whatever it be, and as many phis have whatever parents; none, if noise is 0.
type grower struct {
	*dice
	m     api.Module
	noise int
}

// module is a module made by chance, whose ids are sound and whose functions have graphs.
func (d *dice) module(noise int) api.Module {
	g := grower{dice: d, noise: noise, m: api.Module{Bound: firstFree, Insts: []api.Inst{
		inst(14, 0, 0, anEnum(0), anEnum(0)), inst(19, 0, nothingType), inst(20, 0, truthType), inst(33, 0, functionType, anId(nothingType)),
		inst(41, truthType, someTruth), inst(41, truthType, open),
	}}}
	for range 1 + d.below(3) {
		g.function()
	}
	g.choose()
	return g.m
}

// chance says yes once of so many times as there is noise.
func (g *grower) chance() bool { return g.noise > 0 && g.below(g.noise) == 0 }

// fresh is an id more.
func (g *grower) fresh() uint32 {
	g.m.Bound++
	return g.m.Bound - 1
}

// add puts instructions behind the others.
func (g *grower) add(l ...api.Inst) { g.m.Insts = append(g.m.Insts, l...) }

// function puts a function behind the others.
func (g *grower) function() {
	g.add(inst(54, nothingType, g.fresh(), anEnum(0), anId(functionType)))
	for range g.below(3) {
		g.add(inst(55, truthType, g.fresh()))
	}
	n := 1 + g.below(7)
	first := g.m.Bound
	g.m.Bound += uint32(n)
	for b := range n {
		g.add(inst(248, 0, first+uint32(b)))
		for range g.below(4) / 2 * min(b, 1) {
			g.add(inst(245, truthType, g.fresh()))
		}
		for range g.below(4) {
			g.something()
		}
		g.ending(first, b, n)
	}
	g.add(inst(56, 0, 0))
}

// something is an instruction with open arguments.
func (g *grower) something() {
	switch g.below(6) {
	case 0:
		g.add(inst(62, 0, 0, anId(open), anId(open)))
	case 1:
		g.add(inst(167, truthType, g.fresh(), anId(open), anId(open)))
	case 2:
		g.add(inst(83, open, g.fresh(), anId(someTruth)))
	default:
		g.add(inst(83, truthType, g.fresh(), anId(open)))
	}
}

// ending are the instructions that lead on from a block of n ones; to the first one none may lead.
func (g *grower) ending(first uint32, b, n int) {
	to := func() api.Arg { return anId(first + 1 + uint32(g.below(n-1))) }
	if n == 1 || g.below(5) == 0 {
		g.add([]api.Inst{inst(253, 0, 0), inst(252, 0, 0), inst(254, 0, 0, anId(open))}[g.below(3)])
		return
	}
	onward := to()
	if b+1 < n && g.below(4) > 0 {
		onward = anId(first + uint32(b) + 1)
	}
	switch g.below(6) {
	case 0, 1:
		g.add(inst(249, 0, 0, onward))
	case 2:
		g.add(inst(247, 0, 0, to(), anEnum(0)), inst(250, 0, 0, anId(open), onward, to()))
	case 3:
		g.add(inst(246, 0, 0, to(), to(), anEnum(0)), inst(250, 0, 0, anId(open), to(), onward))
	case 4:
		g.add(inst(251, 0, 0, anId(open), onward, aNumber(1), to(), aNumber(2), to()))
	default:
		g.add(inst(250, 0, 0, anId(open), onward, to()))
	}
}

// choose chooses what is open, and the arguments of phis.
func (g *grower) choose() {
	for _, s := range sayings(g.m) {
		for b, block := range s.f.Blocks {
			for at := block.From; at < block.To; at++ {
				i := &g.m.Insts[at]
				if i.Op == opPhi {
					g.phi(s, i, b)
					continue
				}
				may := func(id uint32) bool { return s.mayName(id, b, at) }
				if i.Type == open {
					i.Type = g.value(s, may)
				}
				for k, a := range i.Args {
					if a.Kind == api.ArgId && a.N == open {
						i.Args[k].N = g.value(s, may)
					}
				}
			}
		}
	}
}

// phi chooses a phi's parents, in whatever order, and its values; now and then one parent lacks, is there twice, or is another one.
func (g *grower) phi(s saying, i *api.Inst, b int) {
	var parents []uint32
	for n, next := range s.next {
		if slices.Contains(next, b) {
			parents = slices.Insert(parents, g.below(len(parents)+1), s.f.Blocks[n].Label)
		}
	}
	if g.chance() && len(parents) > 0 {
		k := g.below(len(parents))
		switch g.below(3) {
		case 0:
			parents = slices.Delete(parents, k, k+1)
		case 1:
			parents = append(parents, parents[k])
		default:
			parents[k] = g.oneOf(s.f.Blocks[g.below(len(s.f.Blocks))].Label, someTruth, uint32(1+g.below(int(g.m.Bound)-1)))
		}
	}
	for _, parent := range parents {
		value := g.value(s, func(id uint32) bool { return s.mayTake(id, parent) })
		i.Args = append(i.Args, anId(value), anId(parent))
	}
	if g.chance() {
		i.Type = g.value(s, func(uint32) bool { return true })
	}
}

// value is an id that may be named; of the function's ids rather than of others.
func (g *grower) value(s saying, may func(id uint32) bool) uint32 {
	if g.chance() {
		return uint32(1 + g.below(int(g.m.Bound)-1))
	}
	l := slices.Clone(s.ids)
	if g.chance() {
		return g.oneOf(append(l, someTruth)...)
	}
	l = slices.DeleteFunc(l, func(id uint32) bool { return !may(id) })
	if len(l) == 0 || g.below(8) == 0 {
		return g.oneOf(someTruth, truthType, s.f.Id, s.f.Blocks[0].Label)
	}
	// Those that were made last are taken more often than others.
	return l[max(g.below(len(l)), g.below(len(l)))]
}

// inBlock says whether a place is in a block of some function.
func inBlock(m api.Module, at int) bool {
	_, b, s := layout.Owner(m, at)
	return s.Err == api.OK && b >= 0
}
