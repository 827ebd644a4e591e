package nest

import (
	"slices"

	"intaglio/api"
)

// dice are numbers that look like chance, and are the same at every run.
type dice uint64

// below is a number below n.
func (d *dice) below(n int) int {
	*d = *d*6364136223846793005 + 1442695040888963407
	return int(uint64(*d)>>33) % n
}

// anyMerge is whatever merge of n nodes; where its fields have no meaning they say anything.
func (d *dice) anyMerge(n int) api.Merge {
	m := api.Merge{Kind: []uint8{0, 0, 0, 1, 2, 3}[d.below(6)], To: d.below(n), Continue: d.below(n)}
	if m.Kind == api.MergeNone && d.below(2) == 0 {
		m.To = d.below(9) - 300
	}
	if m.Kind != api.MergeLoop && d.below(2) == 0 {
		m.Continue = d.below(9) + 9000
	}
	return m
}

// anyPlan is whatever edges and merges of n nodes.
func (d *dice) anyPlan(n int) plan {
	var p plan
	for i := range n {
		var l []int
		for range d.below(3) {
			l = append(l, d.below(n))
		}
		if i+1 < n && d.below(3) > 0 {
			l = append(l, i+1)
		}
		p.next, p.merges = append(p.next, l), append(p.merges, d.anyMerge(n))
	}
	return p
}

// grower makes a plan that is well nested, as programs are: piece by piece, one within another.
type grower struct {
	*dice
	plan
	left int // how many pieces may come still
}

// ways are where one may leave a piece: where a break leads, and where it is gone on with the loop; -1: nowhere.
type ways struct{ broken, on int }

// node is one more node.
func (g *grower) node() int {
	g.next, g.merges = append(g.next, nil), append(g.merges, no)
	return len(g.next) - 1
}

// lead puts one edge more from a node, if there is one.
func (g *grower) lead(from, to int) {
	if from >= 0 {
		g.next[from] = append(g.next[from], to)
	}
}

// grow puts pieces behind a node that has no edges yet; it answers the last node, which has none; -1, if nothing goes on.
func (g *grower) grow(at int, w ways) int {
	for at >= 0 && g.left > 0 {
		g.left--
		switch g.below(11) {
		case 0, 1:
			to := g.node()
			g.lead(at, to)
			at = to
		case 2, 3:
			at = g.choice(at, sel(g.node()), 1+g.below(2), w)
		case 4, 5:
			to := g.node()
			at = g.choice(at, sw(to), 1+g.below(4), ways{to, w.on})
		case 6, 7, 8:
			at = g.loop(at)
		case 9:
			if w.broken >= 0 {
				g.lead(at, w.broken)
				return -1
			}
		case 10:
			if w.on >= 0 {
				g.lead(at, w.on)
				return -1
			}
			if g.below(4) == 0 {
				return -1
			}
		}
	}
	return at
}

// choice puts a selection or a switch at a node, with so many arms; one may lead right to where it ends, or out, or each to the next one.
func (g *grower) choice(at int, m api.Merge, arms int, w ways) int {
	g.merges[at] = m
	end := -1
	for range arms {
		switch k := g.below(9); {
		case k == 0:
			g.lead(at, m.To)
		case k == 1 && w.broken >= 0:
			g.lead(at, w.broken)
		case k == 2 && w.on >= 0:
			g.lead(at, w.on)
		default:
			arm := g.node()
			g.lead(at, arm)
			if m.Kind == api.MergeSwitch && g.below(3) == 0 {
				g.lead(end, arm)
			} else {
				g.lead(end, m.To)
			}
			end = g.grow(arm, w)
		}
	}
	g.lead(end, m.To)
	return m.To
}

// loop puts a loop behind a node, or at it.
func (g *grower) loop(at int) int {
	head := at
	if g.below(3) > 0 {
		head = g.node()
		g.lead(at, head)
	}
	to, on := g.node(), head
	if head != at && g.below(3) == 0 {
		// It goes on at its head: there is one edge back at most, and no other loop goes on there.
		g.merges[head] = loop(to, head)
		g.lead(g.arm(head, ways{to, -1}), head)
	} else {
		on = g.node()
		g.merges[head] = loop(to, on)
		g.lead(g.arm(head, ways{to, on}), on)
		if g.below(6) > 0 {
			g.lead(g.grow(on, ways{to, -1}), head)
		}
	}
	if g.below(2) == 0 {
		g.lead(head, to)
	}
	return to
}

// arm puts a node behind another one, and pieces behind that; now and then it is the other one itself.
func (g *grower) arm(at int, w ways) int {
	if g.below(6) == 0 {
		return at
	}
	first := g.node()
	g.lead(at, first)
	return g.grow(first, w)
}

// grown is a well nested plan of about so many pieces. To its first node an edge may lead only if that is allowed.
func (d *dice) grown(pieces int, first bool) plan {
	g := grower{dice: d, left: 1 + d.below(pieces)}
	at := g.node()
	if !first {
		at = g.node()
		g.lead(0, at)
	}
	for at >= 0 && g.left > 0 {
		at = g.grow(at, ways{-1, -1})
	}
	return g.plan
}

// spoiled is a plan with some things changed.
func (d *dice) spoiled(p plan) plan {
	p = p.clone()
	n := len(p.next)
	for range 1 + d.below(3) {
		i := d.below(n)
		switch l := p.next[i]; d.below(7) {
		case 0, 1:
			if len(l) > 0 {
				l[d.below(len(l))] = d.below(n)
			}
		case 2:
			p.next[i] = append(l, d.below(n))
		case 3:
			p.merges[i] = no
		case 4:
			p.merges[i].To = d.below(n)
		case 5:
			p.merges[i].Continue = d.below(n)
		case 6:
			p.merges[i] = d.anyMerge(n)
		}
		if m := &p.merges[i]; m.Kind == api.MergeLoop && m.Continue < 0 {
			m.Continue = d.below(n)
		}
	}
	return p
}

// mixed is the same plan with other numbers, the first one but itself.
func (d *dice) mixed(p plan) plan {
	n := len(p.next)
	to := make([]int, n)
	for i := range to {
		to[i] = i
	}
	for i := n - 1; i > 1; i-- {
		k := 1 + d.below(i)
		to[i], to[k] = to[k], to[i]
	}
	other := plan{make([][]int, n), make([]api.Merge, n)}
	turned := func(i int) int {
		if i < 0 || i >= n {
			return i
		}
		return to[i]
	}
	for i, l := range p.next {
		for _, k := range l {
			other.next[to[i]] = append(other.next[to[i]], to[k])
		}
		m := p.merges[i]
		other.merges[to[i]] = api.Merge{Kind: m.Kind, To: turned(m.To), Continue: turned(m.Continue)}
	}
	return other
}

// plan is one of some kind.
func (d *dice) plan(most int) plan {
	var p plan
	switch d.below(4) {
	case 0:
		p = d.anyPlan(1 + d.below(most))
	case 1:
		p = d.grown(most/2, true)
	default:
		p = d.spoiled(d.grown(most/2, true))
	}
	if d.below(2) == 0 {
		p = d.mixed(p)
	}
	return p
}

// renaming are the numbers of a renaming.
func (d *dice) renaming(bound uint32) []uint32 {
	to := make([]uint32, bound)
	for i := range to {
		to[i] = uint32(i)
	}
	for i := len(to) - 1; i > 1; i-- {
		k := 1 + d.below(i)
		to[i], to[k] = to[k], to[i]
	}
	return to
}

// anId, anEnum, aNumber: arguments.
func anId(n int) api.Arg { return api.Arg{Kind: api.ArgId, N: uint32(n)} }

func anEnum(n uint32) api.Arg { return api.Arg{Kind: api.ArgEnum, N: n} }

func aNumber(n int) api.Arg { return api.Arg{Kind: api.ArgNumber, N: uint32(n)} }

// ending are the instructions that lead on from a node of a plan, whose labels are from first on: the merge, if it has one, and the last one.
func (d *dice) ending(p plan, i, first int) []api.Inst {
	var l []api.Inst
	m, next := p.merges[i], p.next[i]
	switch m.Kind {
	case api.MergeSelection, api.MergeSwitch:
		l = append(l, api.Inst{Op: 247, Args: []api.Arg{anId(first + m.To), anEnum(0)}})
	case api.MergeLoop:
		l = append(l, api.Inst{Op: 246, Args: []api.Arg{anId(first + m.To), anId(first + m.Continue), anEnum(0)}})
	}
	choose := m.Kind == api.MergeSelection || m.Kind == api.MergeLoop && len(next) != 1 || m.Kind == api.MergeNone && len(next) == 2 && d.below(3) > 0
	switch {
	case len(next) == 0 && m.Kind == api.MergeNone:
		return append(l, api.Inst{Op: []uint16{252, 253, 255}[d.below(3)]})
	case len(next) == 1 && !choose && m.Kind != api.MergeSwitch:
		return append(l, api.Inst{Op: 249, Args: []api.Arg{anId(first + next[0])}})
	case choose:
		// Where there are not two of them one is taken twice, or the others are left out.
		two := append(slices.Clone(next), next...)
		two = append(two, m.To, m.To)
		return append(l, api.Inst{Op: 250, Args: []api.Arg{anId(5), anId(first + two[0]), anId(first + two[1])}})
	}
	among := api.Inst{Op: 251, Args: []api.Arg{anId(6)}}
	for k, to := range append(slices.Clone(next), m.To)[:max(1, len(next))] {
		if k > 0 {
			among.Args = append(among.Args, aNumber(k))
		}
		among.Args = append(among.Args, anId(first+to))
	}
	return append(l, among)
}

// function are the instructions of a function of a plan, whose ids begin with from; it answers the first id behind them.
func (d *dice) function(p plan, from int) ([]api.Inst, int) {
	l := []api.Inst{{Op: 54, Type: 1, Result: uint32(from), Args: []api.Arg{anEnum(0), anId(2)}}}
	first := from + 1
	id := first + len(p.next)
	for range d.below(3) / 2 {
		l = append(l, api.Inst{Op: 55, Type: 4, Result: uint32(id)})
		id++
	}
	for i := range p.next {
		l = append(l, api.Inst{Op: 248, Result: uint32(first + i)})
		for range d.below(3) / 2 {
			l = append(l, api.Inst{Op: 128, Type: 4, Result: uint32(id), Args: []api.Arg{anId(6), anId(6)}})
			id++
		}
		l = append(l, d.ending(p, i, first)...)
	}
	return append(l, api.Inst{Op: 56}), id
}

// module is a module of a few functions, whose ids are sound; of about so many of ten functions something is spoiled, and of as many a label.
func (d *dice) module(wrong int) api.Module {
	m := read(front...)
	id := 10
	for range 1 + d.below(4) {
		p := d.grown(8, false)
		if d.below(10) < wrong {
			p = d.spoiled(p)
		}
		var l []api.Inst
		from := id
		l, id = d.function(d.mixed(p), id)
		if d.below(10) < wrong {
			d.other(l, from, id)
		}
		m.Insts = slices.Concat(m.Insts, l)
	}
	m.Bound = uint32(id)
	return m
}

// other puts another label, or another id, into one of some instructions that lead on.
func (d *dice) other(l []api.Inst, from, to int) {
	at := d.below(len(l))
	for k, a := range l[at].Args {
		if l[at].Op >= 246 && a.Kind == api.ArgId && d.below(2) == 0 {
			l[at].Args[k] = anId(from + d.below(to-from))
			return
		}
	}
}
