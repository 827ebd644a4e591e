// Package blocks tells where the blocks of a function lead, and what their merges say. It asks nothing of the module around them, so that a layer that has asked a whole module once need not ask it again of each function.
package blocks

import (
	"intaglio/api"
	"intaglio/grammar"
)

// The operations that say where a block leads.
const (
	opLoopMerge         = 246
	opSelectionMerge    = 247
	opBranch            = 249
	opBranchConditional = 250
	opSwitch            = 251
)

// Lead says where each of a function's blocks leads, and what its merge says; else that there are too many of them, or which one leads to what it may not. The module's ids are sound, and the function is one of its own.
func Lead(m api.Module, f api.Func) ([][]int, []api.Merge, api.Spot) {
	if len(f.Blocks) > api.MaxNodes {
		return nil, nil, api.Spot{Err: api.ErrLarge, At: f.At}
	}
	by := numbers{}
	for n, b := range f.Blocks {
		by[b.Label] = n
	}
	var next [][]int
	var merges []api.Merge
	for _, b := range f.Blocks {
		// Where nothing else stands between a block's label and its last instruction the label is asked for the merge, and says none.
		before, last := m.Insts[b.To-2], m.Insts[b.To-1]
		merge, ok := by.merge(before, last)
		if !ok {
			return nil, nil, api.Spot{Err: api.ErrTarget, At: b.To - 2}
		}
		to, ok := by.find(Targets(last))
		if !ok {
			return nil, nil, api.Spot{Err: api.ErrTarget, At: b.To - 1}
		}
		next, merges = append(next, to), append(merges, merge)
	}
	return next, merges, api.Spot{}
}

// Targets are the labels to which an instruction branches, as often as they stand.
func Targets(i api.Inst) []uint32 {
	from, step := targetsAt(i.Op)
	if step == 0 || !fits(i) {
		return nil
	}
	var l []uint32
	for at := from; at < len(i.Args); at += step {
		l = append(l, i.Args[at].N)
	}
	return l
}

// targetsAt says where the targets stand among an operation's arguments: where the first one does, and how far it is from each to the next; 0 and 0, if it has none.
func targetsAt(op uint16) (from, step int) {
	switch op {
	case opBranch:
		return 0, 1
	case opBranchConditional:
		return 1, 1
	case opSwitch:
		return 1, 2
	}
	return 0, 0
}

// fits says whether an instruction's arguments fit its operation.
func fits(i api.Inst) bool {
	kinds := make([]uint8, len(i.Args))
	for at, a := range i.Args {
		kinds[at] = a.Kind
	}
	_, ok := grammar.Fits(i.Op, kinds)
	return ok
}

// numbers are those of a function's blocks, by their labels.
type numbers map[uint32]int

// find are the numbers of the blocks of labels; false, if one of these is no block's, or that of the first one, to which nothing may lead.
func (by numbers) find(labels []uint32) ([]int, bool) {
	var l []int
	for _, label := range labels {
		// What is no block's label is 0 here, as the first one's is.
		n := by[label]
		if n == 0 {
			return nil, false
		}
		l = append(l, n)
	}
	return l, true
}

// merge is what an instruction says that stands right ahead of a block's last one; false, if it leads to what it may not.
func (by numbers) merge(before, last api.Inst) (api.Merge, bool) {
	kind, labels := mergeOf(before, last)
	to, ok := by.find(labels)
	if !ok {
		return api.Merge{}, false
	}
	// Where a merge has no second label, or there is none at all, -1 is found behind those that it has.
	to = append(to, -1, -1)
	return api.Merge{Kind: kind, To: to[0], Continue: to[1]}, true
}

// mergeOf is the kind of such an instruction, and the labels to which it leads.
func mergeOf(before, last api.Inst) (uint8, []uint32) {
	switch {
	case before.Op == opLoopMerge:
		return api.MergeLoop, []uint32{before.Args[0].N, before.Args[1].N}
	case before.Op == opSelectionMerge && last.Op == opSwitch:
		return api.MergeSwitch, []uint32{before.Args[0].N}
	case before.Op == opSelectionMerge:
		return api.MergeSelection, []uint32{before.Args[0].N}
	}
	return api.MergeNone, nil
}
