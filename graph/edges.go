package graph

import (
	"slices"

	"intaglio/api"
)

// isNode says whether a number is that of a node that has its edges among these.
func isNode(i int, next [][]int) bool { return 0 <= i && i < len(next) }

// leadToNodes says whether all edges do.
func leadToNodes(next [][]int) bool {
	for _, l := range next {
		if slices.ContainsFunc(l, func(to int) bool { return !isNode(to, next) }) {
			return false
		}
	}
	return true
}

// made is the graph of edges that all lead to nodes.
func made(next [][]int) *Graph {
	g := &Graph{next: make([][]int, len(next))}
	for i, l := range next {
		g.next[i] = once(l)
	}
	g.ahead = turned(g.next)
	g.walk()
	return g
}

// once are nodes, each where it stands first.
func once(l []int) []int {
	var seen marks
	first := make([]int, 0, min(len(l), api.MaxNodes))
	for _, i := range l {
		if !seen.has(i) {
			seen.set(i)
			first = append(first, i)
		}
	}
	return first
}

// turned are the nodes from which edges lead to each node, rising.
func turned(next [][]int) [][]int {
	// They are counted ahead, so that the lists need not grow: there may be very many edges.
	count := make([]int, len(next))
	for _, l := range next {
		for _, to := range l {
			count[to]++
		}
	}
	ahead := make([][]int, len(next))
	for i := range ahead {
		ahead[i] = make([]int, 0, count[i])
	}
	for i, l := range next {
		for _, to := range l {
			ahead[to] = append(ahead[to], i)
		}
	}
	return ahead
}

// walk finds what is reached, and in which order.
func (g *Graph) walk() {
	var come func(i int)
	come = func(i int) {
		g.reached.set(i)
		g.came = append(g.came, i)
		for _, to := range g.next[i] {
			if !g.reached.has(to) {
				come(to)
			}
		}
		g.order = append(g.order, i)
	}
	come(0)
	slices.Reverse(g.order)
}

// copied is a list of its own with the same nodes: a graph's lists are handed to nobody.
func copied(l []int) []int {
	own := make([]int, len(l))
	copy(own, l)
	return own
}
