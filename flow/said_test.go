package flow

import (
	"slices"

	"intaglio/api"
	"intaglio/code"
	"intaglio/graph"
	"intaglio/ids"
	"intaglio/layout"
)

// What is here is the chapter, sentence by sentence, as slowly as it may be: what dominates is told by the ways without it, what is wanted by a search from each block, of each id.

// saying is a module, and one of its functions.
type saying struct {
	m         api.Module
	f         api.Func
	next      [][]int         // where its blocks lead
	params    []uint32        // the ids of its parameters
	own       [][]uint32      // its blocks' own ids
	ids       []uint32        // all of these
	elsewhere map[uint32]bool // what is made in other functions: as a parameter, as a block's label, as a block's own id
	without   [][]bool        // of each block, which ones are reached without it
	reached   []bool
}

// sayings are those of all functions of a module whose ids are sound.
func sayings(m api.Module) []saying {
	functions, s := layout.Cut(m)
	if s.Err != api.OK {
		panic("not in order")
	}
	var l []saying
	for _, f := range functions {
		l = append(l, sayingOf(m, f))
	}
	for n := range l {
		l[n].elsewhere = map[uint32]bool{}
		for k, other := range l {
			if k == n {
				continue
			}
			for _, id := range other.ids {
				l[n].elsewhere[id] = true
			}
			for _, b := range other.f.Blocks {
				l[n].elsewhere[b.Label] = true
			}
		}
	}
	return l
}

// sayingOf is that of a function, without what is made in others.
func sayingOf(m api.Module, f api.Func) saying {
	s := saying{m: m, f: f}
	for _, at := range f.Params {
		s.params = append(s.params, m.Insts[at].Result)
	}
	s.ids = slices.Clone(s.params)
	for _, b := range f.Blocks {
		s.next = append(s.next, saidNext(m, f, b))
		var own []uint32
		for at := b.From; at < b.To; at++ {
			if id := m.Insts[at].Result; id != 0 && id != b.Label {
				own = append(own, id)
			}
		}
		s.own, s.ids = append(s.own, own), append(s.ids, own...)
	}
	for b := range f.Blocks {
		s.without = append(s.without, s.reach(b))
	}
	s.reached = s.reach(-1)
	return s
}

// saidNext says where a block leads.
func saidNext(m api.Module, f api.Func, b api.Block) []int {
	var l []int
	for _, label := range graph.Targets(m.Insts[b.To-1]) {
		if to := blockOf(f, label); to >= 0 && !slices.Contains(l, to) {
			l = append(l, to)
		}
	}
	return l
}

// blockOf is the number of the block of a label; -1, if there is none.
func blockOf(f api.Func, label uint32) int {
	return slices.IndexFunc(f.Blocks, func(b api.Block) bool { return b.Label == label })
}

// reach says to which blocks there is a way from the first one, without another one (-1: whatever way).
func (s saying) reach(without int) []bool {
	came := make([]bool, len(s.next))
	var come func(i int)
	come = func(i int) {
		if i == without || came[i] {
			return
		}
		came[i] = true
		for _, k := range s.next[i] {
			come(k)
		}
	}
	come(0)
	return came
}

// dominates says whether a block stands on each way to another one, to which there is one.
func (s saying) dominates(a, b int) bool { return s.reached[b] && !s.without[a][b] }

// isOwn says whether an id is one of the function's blocks' own.
func (s saying) isOwn(id uint32) bool {
	return slices.Contains(s.ids, id) && !slices.Contains(s.params, id)
}

// madeIn is the block whose own id an id is; -1, if it is none's.
func (s saying) madeIn(id uint32) int {
	return slices.IndexFunc(s.own, func(own []uint32) bool { return slices.Contains(own, id) })
}

// mayName is the rule 3 of one id, at a place in a block.
func (s saying) mayName(id uint32, b, at int) bool {
	if !s.reached[b] || !s.isOwn(id) {
		return true
	}
	made := s.madeIn(id)
	for lesser := s.f.Blocks[b].From; lesser < at; lesser++ {
		if s.m.Insts[lesser].Result == id {
			return true
		}
	}
	return made != b && s.dominates(made, b)
}

// mayTake is the rule 4 of one value.
func (s saying) mayTake(value, parent uint32) bool {
	if !s.isOwn(value) {
		return true
	}
	from := blockOf(s.f, parent)
	// What is no block is not one that is dominated, nor is it one that is not reached; the rule 2 does not hold ahead of this.
	return from >= 0 && (!s.reached[from] || s.dominates(s.madeIn(value), from))
}

// rules are those that do not hold of an instruction of a block, by their numbers.
func (s saying) rules(b, at int) []int {
	var l []int
	i := s.m.Insts[at]
	if slices.ContainsFunc(code.Ids(i), func(id uint32) bool { return s.elsewhere[id] }) {
		l = append(l, 1)
	}
	if i.Op != opPhi {
		for _, id := range code.Ids(i) {
			if !s.mayName(id, b, at) {
				return append(l, 3)
			}
		}
		return l
	}
	var values, parents, ahead []uint32
	for k, a := range i.Args {
		if k%2 == 0 {
			values = append(values, a.N)
		} else {
			parents = append(parents, a.N)
		}
	}
	for n, next := range s.next {
		if slices.Contains(next, b) {
			ahead = append(ahead, s.f.Blocks[n].Label)
		}
	}
	fit := len(parents) == len(ahead)
	for _, label := range ahead {
		fit = fit && slices.Contains(parents, label)
	}
	if !fit {
		l = append(l, 2)
	}
	for k, value := range values {
		if !s.mayTake(value, parents[k]) {
			return append(l, 4)
		}
	}
	return l
}

// ruleErrs are the errors of the rules.
var ruleErrs = []api.Errno{0, api.ErrScope, api.ErrPhi, api.ErrUse, api.ErrUse}

// said is all that the chapter says of a module.
type said struct {
	m     api.Module
	fault api.Spot
	l     []saying
}

// say is what the chapter says of a module.
func say(m api.Module) said {
	o := said{m: m, fault: ids.Check(m)}
	if o.fault.Err != api.OK {
		return o
	}
	o.l = sayings(m)
	o.fault = o.first()
	return o
}

// first is P19.1, of a module whose ids are sound.
func (o said) first() api.Spot {
	for _, s := range o.l {
		if _, _, fault := graph.New(o.m, s.f); fault.Err != api.OK {
			return fault
		}
		for b, block := range s.f.Blocks {
			for at := block.From; at < block.To; at++ {
				if l := s.rules(b, at); len(l) > 0 {
					return spot(ruleErrs[l[0]], at)
				}
			}
		}
	}
	return api.Spot{}
}

// uses says whether a block uses an id.
func (s saying) uses(b int, id uint32) bool {
	block := s.f.Blocks[b]
	for at := block.From; at < block.To; at++ {
		if i := s.m.Insts[at]; i.Op != opPhi && slices.Contains(code.Ids(i), id) {
			return true
		}
	}
	for _, behind := range s.next[b] {
		for at := s.f.Blocks[behind].From; at < s.f.Blocks[behind].To; at++ {
			i := s.m.Insts[at]
			for k := 0; i.Op == opPhi && k < len(i.Args); k += 2 {
				if i.Args[k].N == id && i.Args[k+1].N == block.Label {
					return true
				}
			}
		}
	}
	return false
}

// wanted says whether there is a way from a block to one that uses an id, none of whose blocks makes it.
func (s saying) wanted(b int, id uint32) bool {
	came := make([]bool, len(s.next))
	var come func(i int) bool
	come = func(i int) bool {
		if came[i] || slices.Contains(s.own[i], id) {
			return false
		}
		came[i] = true
		return s.uses(i, id) || slices.ContainsFunc(s.next[i], come)
	}
	return come(b)
}

// live is P19.2.
func (o said) live(label uint32) ([]uint32, api.Spot) {
	if o.fault.Err != api.OK {
		return nil, o.fault
	}
	for _, s := range o.l {
		b := blockOf(s.f, label)
		if b < 0 {
			continue
		}
		var l []uint32
		for _, id := range s.ids {
			if s.wanted(b, id) {
				l = append(l, id)
			}
		}
		slices.Sort(l)
		return l, api.Spot{}
	}
	return nil, beyond
}

// seen is P19.3.
func (o said) seen(id uint32, at int) (bool, api.Spot) {
	if o.fault.Err != api.OK {
		return false, o.fault
	}
	for _, s := range o.l {
		for b, block := range s.f.Blocks {
			if at < block.From || at >= block.To {
				continue
			}
			made := id != 0 && slices.ContainsFunc(o.m.Insts, func(i api.Inst) bool { return i.Result == id })
			return made && !s.elsewhere[id] && s.mayName(id, b, at), api.Spot{}
		}
	}
	return false, beyond
}
