package graph

import (
	"slices"

	"intaglio/api"
)

// dice are numbers that look like chance, and are the same at every run.
type dice uint64

// below is a number below n.
func (d *dice) below(n int) int {
	*d = *d*6364136223846793005 + 1442695040888963407
	return int(uint64(*d)>>33) % n
}

// edges are those of a graph of n nodes, most with few, some with many.
func (d *dice) edges(n int) [][]int {
	next := make([][]int, n)
	for i := range next {
		for range d.below(4) * d.below(3) {
			next[i] = append(next[i], d.below(n))
		}
		if d.below(20) == 0 {
			next[i] = append(next[i], next[i]...)
		}
	}
	return next
}

// upwards are edges that all lead from lesser to greater numbers.
func (d *dice) upwards(n int) [][]int {
	next := make([][]int, n)
	for i := range n - 1 {
		for range d.below(4) {
			next[i] = append(next[i], i+1+d.below(n-1-i))
		}
	}
	return next
}

// renaming are the numbers of a renaming.
func (d *dice) renaming(bound uint32) []uint32 {
	to := make([]uint32, bound)
	for i := range to {
		to[i] = uint32(i)
	}
	for i := len(to) - 1; i > 1; i-- {
		k := 1 + d.below(i)
		to[i], to[k] = to[k], to[i]
	}
	return to
}

// target is a label as an argument: of a block behind the first one; now and then, if it may be wrong, of the first one, or of what is made elsewhere, in another function, too.
func (d *dice) target(labels []uint32, wrong bool) api.Arg {
	if len(labels) < 2 || wrong && d.below(12) == 0 {
		return anId([]uint32{1, 2, 3, 4, 5, 6, 10, 11}[d.below(8)])
	}
	if wrong && d.below(12) == 0 {
		return anId(labels[0])
	}
	return anId(labels[1+d.below(len(labels)-1)])
}

// ending are the last instructions of a block: perhaps a merge, and one that ends it.
func (d *dice) ending(labels []uint32, wrong bool) []api.Inst {
	to := func() api.Arg { return d.target(labels, wrong) }
	branch := inst(249, 0, to())
	choose := inst(250, 0, anId(5), to(), to())
	among := inst(251, 0, anId(6), to())
	for n := range uint32(d.below(5)) {
		among.Args = append(among.Args, aNumber(n), to())
	}
	ahead := inst(247, 0, to(), anEnum(uint32(d.below(3))))
	around := inst(246, 0, to(), to(), anEnum(uint32(d.below(3))))
	all := [][]api.Inst{{branch}, {choose}, {among}, {ahead, choose}, {ahead, among}, {around, branch}, {around, choose}}
	if k := d.below(10); k < len(all) && (len(labels) > 1 || wrong) {
		return all[k]
	}
	return []api.Inst{inst([]uint16{252, 253, 255}[d.below(3)], 0)}
}

// function are the instructions of a function, whose ids begin with from.
func (d *dice) function(from uint32, wrong bool) []api.Inst {
	l := []api.Inst{{Op: 54, Type: 1, Result: from, Args: []api.Arg{anEnum(0), anId(2)}}}
	id := from + 1
	for range d.below(3) {
		l = append(l, api.Inst{Op: 55, Type: 4, Result: id})
		id++
	}
	labels := make([]uint32, 1+d.below(8))
	for k := range labels {
		labels[k] = id
		id++
	}
	for _, label := range labels {
		l = append(l, inst(248, label))
		for range d.below(3) / 2 {
			l = append(l, api.Inst{Op: 128, Type: 4, Result: id, Args: []api.Arg{anId(6), anId(6)}})
			id++
		}
		l = append(l, d.ending(labels, wrong)...)
	}
	return append(l, inst(56, 0))
}

// diceBound is the bound of modules made by chance.
const diceBound = 99

// module is a module of a few functions, whose ids are sound; with targets that are none, if they may be wrong.
func (d *dice) module(wrong bool) api.Module {
	m := read(front...)
	m.Bound = diceBound
	for k := range uint32(1 + d.below(3)) {
		m.Insts = slices.Concat(m.Insts, d.function(10+k*29, wrong))
	}
	return m
}
