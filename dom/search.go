package dom

import (
	"slices"

	"intaglio/graph"
)

// search is a tree that is being found. In it nodes go by their places in the graph's order, in which each stands behind the one over it.
type search struct {
	next  []marks // to which nodes edges lead from each
	ahead []marks // from which nodes edges lead to each
	over  []int   // a node over each: what dominates it strictly is this one, or above this one
	due   marks   // the nodes that are to be looked at
}

// overs are the nodes over each, all of them by their places in a graph's order.
func overs(g *graph.Graph, order []int) []int {
	n := len(order)
	s := search{next: newRows(n), ahead: newRows(n), over: make([]int, n), due: newMarks(n)}
	place := make([]int, g.Len())
	for at, i := range order {
		place[i] = at
	}
	for from, i := range order {
		for _, k := range g.Next(i) {
			s.next[from].set(place[k])
			s.ahead[place[k]].set(from)
		}
	}
	s.begin()
	s.settle()
	return s.over
}

// begin puts each node under the first of those from which edges lead to it, which stands ahead of it, since the walk came to it from one that it left later. So there is a way to each node through those above it, and what dominates it is among them.
func (s *search) begin() {
	for i := 1; i < len(s.over); i++ {
		s.over[i] = s.ahead[i].least()
		s.due.set(i)
	}
}

// settle goes round until each node is under the one that is nearest above all from which edges lead to it.
func (s *search) settle() {
round:
	for {
		moved := newMarks(len(s.over))
		for i := 1; i < len(s.over); i++ {
			if s.lifted(i) || moved.has(s.over[i]) {
				// Other nodes are above this one now: another one may be nearest above all that lead where it leads.
				moved.set(i)
				s.due.add(s.next[i])
			}
		}
		for _, word := range moved {
			if word != 0 {
				continue round
			}
		}
		return
	}
}

// lifted looks at a node, if that is due, and says whether it is under another one now.
func (s *search) lifted(i int) bool {
	if !s.due.has(i) {
		return false
	}
	s.due.drop(i)
	was := s.over[i]
	s.over[i] = s.nearest(s.ahead[i])
	return s.over[i] != was
}

// nearest is the node that is nearest above all of some (it may be one of them). The last of them in order is given up for the one over it, until one is left.
func (s *search) nearest(some marks) int {
	left := slices.Clone(some)
	count := left.size()
	for i := range left.falling() {
		if count == 1 {
			return i
		}
		if over := s.over[i]; left.has(over) {
			count--
		} else {
			left.set(over)
		}
	}
	return 0
}
