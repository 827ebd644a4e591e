package graph

import (
	"slices"

	"intaglio/api"
)

// What the chapter says, said once more: slowly, and by other means.

// saidNext is Next of a node: the nodes of its edges, each at the first edge to it.
func saidNext(next [][]int, i int) []int {
	var l []int
	for at, to := range next[i] {
		if slices.Index(next[i], to) == at {
			l = append(l, to)
		}
	}
	return l
}

// saidAhead are the nodes that have an edge to a node.
func saidAhead(next [][]int, i int) []int {
	var l []int
	for from := range next {
		if slices.Contains(next[from], i) {
			l = append(l, from)
		}
	}
	return l
}

// saidReached says of each node whether a way leads to it: by ways of no edge, of one more, and so on, until none is new.
func saidReached(next [][]int) []bool {
	reached := make([]bool, len(next))
	reached[0] = true
	for more := true; more; {
		more = false
		for from, l := range next {
			for _, to := range l {
				if reached[from] && !reached[to] {
					reached[to], more = true, true
				}
			}
		}
	}
	return reached
}

// saidWalk is the walk: the nodes as it comes to them, and as it leaves them. It goes by a list of the nodes to which it came and which it did not leave yet.
func saidWalk(next [][]int) (came, left []int) {
	came = row(0)
	under := row(0)
	for len(under) > 0 {
		here := under[len(under)-1]
		at := slices.IndexFunc(next[here], func(to int) bool { return !slices.Contains(came, to) })
		if at < 0 {
			left = append(left, here)
			under = under[:len(under)-1]
			continue
		}
		came = append(came, next[here][at])
		under = append(under, next[here][at])
	}
	return came, left
}

// saidAnswers are all answers of the graph of these edges.
func saidAnswers(next [][]int) answers {
	a := answers{reached: saidReached(next)}
	for i := range next {
		a.next = append(a.next, saidNext(next, i))
		a.ahead = append(a.ahead, saidAhead(next, i))
	}
	came, left := saidWalk(next)
	slices.Reverse(left)
	a.walk, a.order = came, left
	return a
}

// saidTargets are the labels of the targets of an instruction of good shape.
func saidTargets(i api.Inst) []uint32 {
	var l []uint32
	switch i.Op {
	case 249:
		l = append(l, i.Args[0].N)
	case 250:
		l = append(l, i.Args[1].N, i.Args[2].N)
	case 251:
		l = append(l, i.Args[1].N)
		for k := 3; k < len(i.Args); k += 2 {
			l = append(l, i.Args[k].N)
		}
	}
	return l
}

// saidBlock is the number of the block of a label; -1, if it is none of these.
func saidBlock(f api.Func, label uint32) int {
	return slices.IndexFunc(f.Blocks, func(b api.Block) bool { return b.Label == label })
}

// saidMerge is a block's merge, as it stands: its kind, and its labels.
func saidMerge(m api.Module, b api.Block) (uint8, []uint32) {
	if b.To-b.From < 3 {
		return 0, nil
	}
	before, last := m.Insts[b.To-2], m.Insts[b.To-1]
	switch {
	case before.Op == 246:
		return 2, []uint32{before.Args[0].N, before.Args[1].N}
	case before.Op == 247 && last.Op == 251:
		return 3, []uint32{before.Args[0].N}
	case before.Op == 247:
		return 1, []uint32{before.Args[0].N}
	}
	return 0, nil
}

// saidNew is what the chapter says of a function of at most MaxNodes blocks: its edges, and its merges.
func saidNew(m api.Module, f api.Func) ([][]int, []api.Merge, api.Spot) {
	var next [][]int
	var l []api.Merge
	for _, b := range f.Blocks {
		kind, labels := saidMerge(m, b)
		targets := saidTargets(m.Insts[b.To-1])
		for _, label := range labels {
			if saidBlock(f, label) <= 0 {
				return nil, nil, spot(api.ErrTarget, b.To-2)
			}
		}
		var to []int
		for _, label := range targets {
			if saidBlock(f, label) <= 0 {
				return nil, nil, spot(api.ErrTarget, b.To-1)
			}
			to = append(to, saidBlock(f, label))
		}
		next = append(next, to)
		merge := api.Merge{Kind: kind, To: -1, Continue: -1}
		if kind != 0 {
			merge.To = saidBlock(f, labels[0])
		}
		if kind == 2 {
			merge.Continue = saidBlock(f, labels[1])
		}
		l = append(l, merge)
	}
	return next, l, api.Spot{}
}
