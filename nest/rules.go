package nest

import (
	"slices"

	"intaglio/api"
)

// bare says whether a node chooses, and says nothing of a construct.
func (j *judge) bare(i int) bool { return !j.isHead(i) && len(j.next[i]) > 1 }

// merge says whether what a head says of its construct may not be.
func (j *judge) merge(i int) bool {
	if !j.isHead(i) {
		return false
	}
	m := j.merges[i]
	if m.To == i || !j.tree.Dominates(i, m.To) || j.shared(i, j.isHead, func(m api.Merge) int { return m.To }) {
		return true
	}
	if !j.isLoop(i) {
		return false
	}
	return m.Continue == m.To || !j.tree.Dominates(i, m.Continue) || j.shared(i, j.isLoop, func(m api.Merge) int { return m.Continue })
}

// shared says whether the merge of another node that stands, of some kind, leads to where that of a node does.
func (j *judge) shared(i int, kind func(i int) bool, to func(m api.Merge) int) bool {
	for k, m := range j.merges {
		if k != i && kind(k) && j.stands(k) && to(m) == to(j.merges[i]) {
			return true
		}
	}
	return false
}

// isBack says whether an edge is one back.
func (j *judge) isBack(from, to int) bool { return j.tree.Dominates(to, from) }

// back says whether edges lead back from a node, or to it, that may not, or lead round without leading back.
func (j *judge) back(i int) bool {
	backs := 0
	for _, from := range j.graph.Ahead(i) {
		if j.isBack(from, i) {
			backs++
		}
	}
	return backs > 1 || j.ringed[i] || slices.ContainsFunc(j.next[i], func(to int) bool {
		return j.isBack(i, to) && !(j.isLoop(to) && j.tree.Dominates(j.merges[to].Continue, i))
	})
}

// exit says whether an edge leads from a node into a construct, but not to its head, or leaves constructs, and may not.
func (j *judge) exit(from int) bool {
	heads := slices.Collect(j.around(from))
	loop := first(heads, j.isLoop)
	broken := first(heads, func(i int) bool { return j.isLoop(i) || j.isSwitch(i) })
edges:
	for _, to := range j.next[from] {
		if j.past(from, to) {
			return true
		}
		// What the innermost one has, all have; and that it goes on with its loop is allowed, whatever else it leaves.
		if len(heads) > 0 && j.has(heads[0], to) || loop != none && j.has(loop, to) && to == j.merges[loop].Continue {
			continue edges
		}
		for within, head := range slices.Backward(heads) {
			if j.has(head, to) {
				continue
			}
			// This is the outermost one that is left.
			if to == j.merges[head].To && (within == 0 || head == broken) {
				continue edges
			}
			return true
		}
	}
	return false
}

// past says whether an edge leads into a construct, but not to its head. Of the constructs of other heads around where it leads the innermost one is in all others: an edge that leads into one of them leads into that.
func (j *judge) past(from, to int) bool { return j.over[to] != none && !j.has(j.over[to], from) }

// first is the first of some heads that is of some kind; none: there is none.
func first(heads []int, kind func(i int) bool) int {
	if at := slices.IndexFunc(heads, kind); at >= 0 {
		return heads[at]
	}
	return none
}
