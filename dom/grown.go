package dom

import (
	"slices"

	"intaglio/graph"
)

// grown is the tree of a graph that is there.
func grown(g *graph.Graph) *Tree {
	n, order := g.Len(), g.Order()
	none := slices.Repeat([]int{-1}, n)
	t := &Tree{over: none, depth: slices.Clone(none), first: make([]int, n), count: make([]int, n), next: make([]marks, n)}
	t.stack(order, overs(g, order))
	t.number(order)
	for _, i := range order {
		t.next[i] = newMarks(n)
		for _, k := range g.Next(i) {
			t.next[i].set(k)
		}
	}
	return t
}

// stack puts the nodes under those over them, which are told by their places in order.
func (t *Tree) stack(order, over []int) {
	for at, i := range order {
		t.depth[i] = 0
		if at > 0 {
			t.over[i] = order[over[at]]
			t.depth[i] = t.depth[t.over[i]] + 1
		}
	}
}

// number counts the nodes that each dominates, and gives them numbers, so that these stand together. In order each node stands behind the one over it.
func (t *Tree) number(order []int) {
	for _, i := range slices.Backward(order) {
		t.count[i]++
		if over := t.over[i]; over >= 0 {
			t.count[over] += t.count[i]
		}
	}
	free := make([]int, len(t.over)) // the first number that is left of those below each
	for _, i := range order {
		if over := t.over[i]; over >= 0 {
			t.first[i] = free[over]
			free[over] += t.count[i]
		}
		free[i] = t.first[i] + 1
	}
}
