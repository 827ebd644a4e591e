package dom

import (
	"math"
	"slices"
	"testing"

	"intaglio/api"
	"intaglio/graph"
)

// row is a list of nodes, edges a list of such lists, pairs a list of edges.
func row(l ...int) []int { return l }

func edges(l ...[]int) [][]int { return l }

func pairs(l ...[2]int) [][2]int { return l }

// example is the edges of the chapter's graph G.
func example() [][]int { return edges(row(1, 2), row(3), row(3), row(1, 4), row(), row(4)) }

// noNodes are numbers that are no node's of a graph of n nodes.
func noNodes(n int) []int {
	return []int{-1, -2, -64, -4096, math.MinInt32, math.MinInt, n, n + 1, n + 63, n + 64, api.MaxNodes, api.MaxNodes + 1, 1 << 31, 1 << 32, math.MaxInt}
}

// graphOf is the graph of edges that are some graph's.
func graphOf(t *testing.T, next [][]int) *graph.Graph {
	t.Helper()
	g, e := graph.Of(next)
	if e != api.OK {
		t.Fatalf("graph.Of: %d, of %d nodes", e, len(next))
	}
	return g
}

// treeOf is the tree of that graph.
func treeOf(t *testing.T, next [][]int) *Tree {
	t.Helper()
	d, e := New(graphOf(t, next))
	if d == nil || e != api.OK {
		t.Fatalf("New: %v, %d", d, e)
	}
	return d
}

// upFrom are the nodes that Up tells.
func upFrom(d *Tree, i int) []int { return slices.Collect(d.Up(i)) }

// near is what Near answers.
type near struct {
	node int
	is   bool
}

// answers are all that a tree answers of its nodes.
type answers struct {
	over, depth         []int
	dominates           [][]bool
	near                [][]near
	under, up, frontier [][]int
	backs               [][2]int
}

// asked are the answers of a tree of n nodes.
func asked(d *Tree, n int) answers {
	a := answers{backs: d.Backs()}
	for i := range n {
		a.over = append(a.over, d.Over(i))
		a.depth = append(a.depth, d.Depth(i))
		a.under = append(a.under, d.Under(i))
		a.up = append(a.up, upFrom(d, i))
		a.frontier = append(a.frontier, d.Frontier(i))
		dominates, nears := make([]bool, n), make([]near, n)
		for k := range n {
			dominates[k] = d.Dominates(i, k)
			nears[k].node, nears[k].is = d.Near(i, k)
		}
		a.dominates, a.near = append(a.dominates, dominates), append(a.near, nears)
	}
	return a
}

// rowsEqual says whether lists of lists are the same; nil and empty ones are one.
func rowsEqual[T comparable](a, b [][]T) bool { return slices.EqualFunc(a, b, slices.Equal) }

// equal says whether answers are the same.
func (a answers) equal(b answers) bool {
	return slices.Equal(a.over, b.over) && slices.Equal(a.depth, b.depth) && slices.Equal(a.backs, b.backs) &&
		rowsEqual(a.dominates, b.dominates) && rowsEqual(a.near, b.near) &&
		rowsEqual(a.under, b.under) && rowsEqual(a.up, b.up) && rowsEqual(a.frontier, b.frontier)
}

// holdNothing says whether a tree answers that there is nothing of what is no node, or is not reached; also beside others.
func holdNothing(t *testing.T, d *Tree, i int, others ...int) {
	t.Helper()
	if d.Over(i) != -1 || d.Depth(i) != -1 {
		t.Errorf("of %d: Over %d, Depth %d", i, d.Over(i), d.Depth(i))
	}
	if len(d.Under(i)) != 0 || len(upFrom(d, i)) != 0 || len(d.Frontier(i)) != 0 {
		t.Errorf("of %d: Under %v, Up %v, Frontier %v", i, d.Under(i), upFrom(d, i), d.Frontier(i))
	}
	for _, k := range append(others, i) {
		if d.Dominates(i, k) || d.Dominates(k, i) {
			t.Errorf("Dominates of %d and %d: %v, %v", i, k, d.Dominates(i, k), d.Dominates(k, i))
		}
		for _, c := range [][2]int{{i, k}, {k, i}} {
			if n, is := d.Near(c[0], c[1]); n != 0 || is {
				t.Errorf("Near(%d, %d): %d, %v", c[0], c[1], n, is)
			}
		}
	}
}

// holdTree says whether a tree is that of the graph of these edges: all that it answers is what the chapter says of them.
func holdTree(t *testing.T, d *Tree, next [][]int) {
	t.Helper()
	if got, want := asked(d, len(next)), saidAnswers(next); !got.equal(want) {
		t.Fatalf("of %v: %v; not %v", next, got, want)
	}
	for _, i := range noNodes(len(next)) {
		holdNothing(t, d, i, 0, len(next)-1)
	}
}

// holdNext says whether the tree of these edges is so.
func holdNext(t *testing.T, next [][]int) {
	t.Helper()
	holdTree(t, treeOf(t, next), next)
}
