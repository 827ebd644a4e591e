package nest

import (
	"iter"

	"intaglio/api"
	"intaglio/graph"
)

// judge says which nodes break the rules.
type judge struct {
	*constructs
	graph  *graph.Graph
	next   [][]int
	over   []int  // the head of the innermost construct around each node, but its own one; none: there is none
	ringed []bool // which nodes lie on a ring of edges none of which is an edge back
}

// rule is one of the rules: the error by which a node breaks it, and whether one does.
type rule struct {
	err    api.Errno
	broken func(i int) bool
}

// judgeOf is the judge of a graph and merges that fit.
func judgeOf(g *graph.Graph, l []api.Merge) *judge {
	j := &judge{constructs: constructsOf(g, l), graph: g, next: make([][]int, len(l)), over: make([]int, len(l))}
	for i := range l {
		j.next[i] = g.Next(i)
		j.over[i] = none
		for head := range j.around(i) {
			if head != i {
				j.over[i] = head
				break
			}
		}
	}
	j.ringed = ringed(j)
	return j
}

// flaws goes over what is wrong, by nodes, and by rules.
func (j *judge) flaws() iter.Seq[api.Flaw] {
	rules := [...]rule{{api.ErrBare, j.bare}, {api.ErrMerge, j.merge}, {api.ErrBack, j.back}, {api.ErrExit, j.exit}}
	return func(yield func(api.Flaw) bool) {
		for i := range j.next {
			if !j.stands(i) {
				continue
			}
			for _, r := range rules {
				if r.broken(i) && !yield(api.Flaw{Block: i, Err: r.err}) {
					return
				}
			}
		}
	}
}
