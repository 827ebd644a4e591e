package nest

import (
	"iter"
	"slices"

	"intaglio/api"
	"intaglio/dom"
	"intaglio/graph"
)

// none is what stands for no node.
const none = -1

// isNode says whether a number is that of one of n nodes.
func isNode(i, n int) bool { return 0 <= i && i < n }

// fit says what is wrong with a graph and merges that are to be its own.
func fit(g *graph.Graph, l []api.Merge) api.Errno {
	switch {
	case g == nil:
		return api.ErrNil
	case g.Len() != len(l) || slices.ContainsFunc(l, func(m api.Merge) bool { return !fits(m, len(l)) }):
		return api.ErrArg
	}
	return api.OK
}

// fits says whether a merge may be that of one of n nodes.
func fits(m api.Merge, n int) bool {
	return m.Kind <= api.MergeSwitch && !slices.ContainsFunc(leads(m), func(i int) bool { return !isNode(i, n) })
}

// leads are the nodes to which a merge leads: what else its fields say has no meaning.
func leads(m api.Merge) []int {
	switch m.Kind {
	case api.MergeNone:
		return nil
	case api.MergeLoop:
		return []int{m.To, m.Continue}
	}
	return []int{m.To}
}

// constructs are those of a graph with merges.
type constructs struct {
	merges []api.Merge
	tree   *dom.Tree // that of the wide graph
}

// constructsOf are the constructs of a graph and merges that fit.
func constructsOf(g *graph.Graph, l []api.Merge) *constructs {
	next := make([][]int, len(l))
	for i, m := range l {
		next[i] = append(g.Next(i), leads(m)...)
	}
	wide, _ := graph.Of(next)
	tree, _ := dom.New(wide)
	return &constructs{merges: l, tree: tree}
}

// isHead says whether a node is a head.
func (c *constructs) isHead(i int) bool { return c.merges[i].Kind != api.MergeNone }

// isLoop says whether a node is a loop's head.
func (c *constructs) isLoop(i int) bool { return c.merges[i].Kind == api.MergeLoop }

// isSwitch says whether a node is a switch's head.
func (c *constructs) isSwitch(i int) bool { return c.merges[i].Kind == api.MergeSwitch }

// stands says whether a node does.
func (c *constructs) stands(i int) bool { return c.tree.Depth(i) >= 0 }

// has says whether a node is a head, and its construct has another one.
func (c *constructs) has(head, i int) bool {
	return c.isHead(head) && c.tree.Dominates(head, i) && !c.tree.Dominates(c.merges[head].To, i)
}

// around goes over the heads of the constructs around a node, the innermost one first: of two constructs that have the node that of the upper head has all of the other.
func (c *constructs) around(i int) iter.Seq[int] {
	return func(yield func(int) bool) {
		for head := range c.tree.Up(i) {
			if c.has(head, i) && !yield(head) {
				return
			}
		}
	}
}
