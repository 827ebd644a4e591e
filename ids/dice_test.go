package ids

import (
	"slices"

	"intaglio/api"
	"intaglio/grammar"
)

// dice are numbers that look like chance, and are the same at every run.
type dice uint64

// below is a number below n.
func (d *dice) below(n int) int {
	*d = *d*6364136223846793005 + 1442695040888963407
	return int(uint64(*d)>>33) % n
}

// id is an id below a bound, 2 at the least.
func (d *dice) id(bound uint32) uint32 { return 1 + uint32(d.below(int(bound)-1)) }

// renaming are the numbers of a renaming.
func (d *dice) renaming(bound uint32) []uint32 {
	to := unchanged(bound)
	for i := len(to) - 1; i > 1; i-- {
		k := 1 + d.below(i)
		to[i], to[k] = to[k], to[i]
	}
	return to
}

// ofPart is an instruction of one of the forms of a part, of the operations that keep says; its ids are not chosen yet.
func (d *dice) ofPart(part uint8, keep func(op uint16) bool) api.Inst {
	var l []api.Form
	for f := range grammar.All() {
		if f.Part == part && keep(f.Op) {
			l = append(l, f)
		}
	}
	f := l[d.below(len(l))]
	rows := d.below(3)
	if f.Rest == "" {
		rows = 0
	}
	if f.Most != 0 {
		rows = min(rows, f.Most)
	}
	i := sampleOf(f, rows)
	if f.Op == 59 {
		i.Args[0].N = 6
	}
	return i
}

// anyOp, plainOp: operations of a part; those of a function that may stand in every block.
func anyOp(uint16) bool { return true }

func plainOp(op uint16) bool { return op < 245 && op != 54 && op != 55 && op != 56 }

// opSample is an instruction of an operation.
func opSample(op uint16, rows int) api.Inst {
	f, _ := grammar.Of(op)
	return sampleOf(f, rows)
}

// ends are a merge, if there is one, and an ender.
func (d *dice) ends() []api.Inst {
	switch d.below(4) {
	case 0:
		return []api.Inst{opSample(247, 0), opSample(251, d.below(3))}
	case 1:
		return []api.Inst{opSample(246, 0), opSample(249, 0)}
	case 2:
		return []api.Inst{opSample(250, 0)}
	}
	return []api.Inst{opSample(uint16(252+d.below(4)), 0)}
}

// function is a function's instructions.
func (d *dice) function() []api.Inst {
	l := []api.Inst{opSample(54, 0)}
	for range d.below(3) {
		l = append(l, opSample(55, 0))
	}
	for block := range 1 + d.below(3) {
		l = append(l, opSample(248, 0))
		for range d.below(3) {
			if block > 0 {
				l = append(l, opSample(245, d.below(3)))
			} else {
				l = append(l, opSample(59, d.below(2)))
			}
		}
		for range d.below(4) {
			l = append(l, d.ofPart(8, plainOp))
		}
		l = append(l, d.ends()...)
	}
	return append(l, opSample(56, 0))
}

// ordered is a module in order; its ids are not chosen yet.
func (d *dice) ordered() []api.Inst {
	var l []api.Inst
	for part := range uint8(8) {
		n := d.below(3)
		switch part {
		case 1:
			n = 1
		case 7:
			n = d.below(8)
		}
		for range n {
			l = append(l, d.ofPart(part, anyOp))
		}
	}
	for range d.below(3) {
		l = append(l, d.function()...)
	}
	return l
}

// sound is a module whose ids are sound. Ids are named ahead of their making wherever they may be; some below the bound are not made.
func (d *dice) sound() api.Module {
	l := d.ordered()
	// Something must be there to be named, and by those of the part 7 ahead of them.
	first := slices.IndexFunc(l, inPartSeven)
	if first < 0 {
		first = slices.IndexFunc(l, func(i api.Inst) bool { return i.Op == 54 })
	}
	if first < 0 {
		first = len(l)
	}
	l = slices.Insert(l, first, opSample(20, 0))
	m := module(uint32(d.below(3)), 0, l...)
	made := d.fillMade(&m)
	var ahead []uint32
	for at := range m.Insts {
		from := made
		if inPartSeven(m.Insts[at]) {
			from = ahead
		}
		names, makes := idSpots(&m.Insts[at])
		for _, n := range names {
			*n = from[d.below(len(from))]
		}
		if makes != nil {
			ahead = append(ahead, *makes)
		}
	}
	return m
}

// fillMade chooses unlike ids for all that is made, and a bound for them, and answers these ids.
func (d *dice) fillMade(m *api.Module) []uint32 {
	count := 0
	for at := range m.Insts {
		if _, makes := idSpots(&m.Insts[at]); makes != nil {
			count++
		}
	}
	m.Bound = uint32(count + 1 + d.below(4))
	order := d.renaming(m.Bound)[1:]
	var made []uint32
	for at := range m.Insts {
		if _, makes := idSpots(&m.Insts[at]); makes != nil {
			*makes = order[len(made)]
			made = append(made, *makes)
		}
	}
	return made
}

// spoiled is a module of which up to so many ids are others; it is of good shape, and in order, still.
func (d *dice) spoiled(m api.Module, most int) api.Module {
	m = apart(m)
	for range 1 + d.below(most) {
		names, makes := idSpots(&m.Insts[d.below(len(m.Insts))])
		if makes != nil {
			names = append(names, makes)
		}
		if len(names) > 0 {
			*names[d.below(len(names))] = d.id(m.Bound)
		}
	}
	return m
}

// shaped is a module of good shape: instructions of any forms, in whatever order, with any ids.
func (d *dice) shaped(most int, bound uint32) api.Module {
	m := module(uint32(d.below(2)), bound)
	all := samples()
	for range d.below(most + 1) {
		i := all[d.below(len(all))]
		i.Args = slices.Clone(i.Args)
		m.Insts = append(m.Insts, i)
		names, makes := idSpots(&m.Insts[len(m.Insts)-1])
		if makes != nil {
			names = append(names, makes)
		}
		for _, n := range names {
			*n = d.id(bound)
		}
	}
	return m
}
