package graph

import (
	"math"
	"slices"
	"testing"

	"intaglio/api"
)

// The chapter's examples of graphs.
func TestExamples(t *testing.T) {
	holdRefused(t, api.ErrArg, nil)
	holdRefused(t, api.ErrEdge, edges(row(1)))
	holdRefused(t, api.ErrEdge, edges(row(-1)))
	g := graphOf(t, example())
	if l := g.Next(0); !slices.Equal(l, row(2, 1)) {
		t.Errorf("Next(0): %v", l)
	}
	if l := g.Ahead(3); !slices.Equal(l, row(1, 2)) {
		t.Errorf("Ahead(3): %v", l)
	}
	if l := g.Ahead(1); !slices.Equal(l, row(0, 2)) {
		t.Errorf("Ahead(1): %v", l)
	}
	if g.Reached(4) || len(g.Next(5)) != 0 {
		t.Errorf("Reached(4): %v; Next(5): %v", g.Reached(4), g.Next(5))
	}
	if l := walked(g); !slices.Equal(l, row(0, 2, 3, 1)) {
		t.Errorf("Walk: %v", l)
	}
	if l := g.Order(); !slices.Equal(l, row(0, 2, 1, 3)) {
		t.Errorf("Order: %v", l)
	}
	holdGraph(t, g, example())
}

// P14.1: a graph without nodes, of one, of MaxNodes and of one more.
func TestOfHowMany(t *testing.T) {
	holdRefused(t, api.ErrArg, nil)
	holdRefused(t, api.ErrArg, [][]int{})
	holdGraph(t, graphOf(t, edges(row())), edges(row()))
	holdGraph(t, graphOf(t, make([][]int, 1)), edges(row()))
	for _, n := range []int{2, 63, 64, 65, 127, 128, 129, api.MaxNodes - 1, api.MaxNodes} {
		if g := graphOf(t, make([][]int, n)); g.Len() != n {
			t.Errorf("Len of %d nodes: %d", n, g.Len())
		}
	}
	for _, n := range []int{api.MaxNodes + 1, api.MaxNodes + 2, 2 * api.MaxNodes, 1 << 20} {
		holdRefused(t, api.ErrLarge, make([][]int, n))
	}
}

// P14.1: a number is a node's up to the last one; in whatever row, and at whatever place.
func TestOfWhichNumbers(t *testing.T) {
	for n := 1; n < 5; n++ {
		for from := range n {
			next := make([][]int, n)
			next[from] = row(0, n-1, 0, n-1)
			holdGraph(t, graphOf(t, next), next)
			for _, to := range noNodes(n) {
				for at := range 5 {
					bad := slices.Clone(next)
					bad[from] = slices.Insert(slices.Clone(next[from]), at, to)
					holdRefused(t, api.ErrEdge, bad)
				}
			}
		}
	}
	next := make([][]int, api.MaxNodes)
	next[api.MaxNodes-1] = row(api.MaxNodes - 1)
	graphOf(t, next)
	next[api.MaxNodes-1] = row(api.MaxNodes-1, api.MaxNodes)
	holdRefused(t, api.ErrEdge, next)
	next[api.MaxNodes-1] = row(math.MinInt)
	holdRefused(t, api.ErrEdge, next)
}

// P14.1, R2: which of two errors comes first.
func TestOfFirst(t *testing.T) {
	next := make([][]int, api.MaxNodes+1)
	next[0] = row(-1)
	holdRefused(t, api.ErrLarge, next)
	next[0] = row(api.MaxNodes + 1)
	holdRefused(t, api.ErrLarge, next)
	// One of the rows too many leads to what would be its own node.
	next[0] = row(api.MaxNodes)
	holdRefused(t, api.ErrLarge, next)
	holdRefused(t, api.ErrEdge, next[:api.MaxNodes])
}

// graphs are graphs of many kinds.
func graphs() [][][]int {
	return [][][]int{
		edges(row()),
		edges(row(0)),
		edges(row(0, 0, 0)),
		edges(row(), row()),
		edges(row(), row(0)),
		edges(row(), row(1)),
		edges(row(1), row()),
		edges(row(1), row(0)),
		edges(row(1, 0), row(1, 0)),
		edges(row(1, 1, 1), row(0, 1, 0, 1)),
		// A row, its way back, a ring.
		edges(row(1), row(2), row(3), row()),
		edges(row(), row(0), row(1), row(2)),
		edges(row(1), row(2), row(3), row(0)),
		edges(row(3), row(0), row(1), row(2)),
		// Two ways to one node, in both orders; a short cut, in both orders.
		edges(row(1, 2), row(3), row(3), row()),
		edges(row(2, 1), row(3), row(3), row()),
		edges(row(1, 2), row(2), row()),
		edges(row(2, 1), row(2), row()),
		// Edges told twice, at several places.
		edges(row(3, 1, 3, 2, 1, 3), row(2, 2), row(1, 1, 0), row(3)),
		edges(row(1, 2, 3, 3, 2, 1), row(), row(), row()),
		edges(row(1), row(1, 2, 1), row(2, 2), row()),
		// A loop within a loop; a loop with two ways in.
		edges(row(1), row(2, 5), row(3, 4), row(2), row(1), row()),
		edges(row(1, 2), row(2), row(1, 3), row()),
		// Nodes that are not reached: with edges to what is, among themselves, in a ring.
		edges(row(1), row(), row(1, 0), row(2)),
		edges(row(2), row(2, 3), row(), row(1)),
		edges(row(0), row(2), row(3), row(1), row(0, 1, 2, 3, 4)),
		// From node to node by the greatest number first.
		edges(row(4, 3, 2, 1), row(), row(), row(), row(3, 2)),
		edges(row(4), row(), row(1), row(2), row(3)),
		example(),
	}
}

// P14.1, P14.4, P14.5: graphs of many kinds.
func TestGraphs(t *testing.T) {
	for _, next := range graphs() {
		holdGraph(t, graphOf(t, next), next)
	}
}

// P14.1, P14.4, P14.5: all graphs of up to three nodes, with rows of up to two edges.
func TestSmallGraphs(t *testing.T) {
	for n := 1; n <= 3; n++ {
		all := [][]int{row()}
		for a := range n {
			all = append(all, row(a))
			for b := range n {
				all = append(all, row(a, b))
			}
		}
		lists := []int{0, 0, 0}
		for count := 1; count > 0; {
			var next [][]int
			for i := range n {
				next = append(next, all[lists[i]])
			}
			holdGraph(t, graphOf(t, next), next)
			// The next choice of rows, as digits are counted up.
			count = 0
			for i := range n {
				lists[i] = (lists[i] + 1) % len(all)
				if lists[i] != 0 {
					count = 1
					break
				}
			}
		}
	}
}

// P14.4: Next keeps the order of the first edges, Ahead rises; each node stands once.
func TestNextAndAhead(t *testing.T) {
	g := graphOf(t, edges(row(5, 1, 5, 4, 1, 0, 0, 4), row(5), row(5, 5), row(5, 3), row(5), row(5, 0)))
	for _, c := range []struct{ got, want []int }{
		{g.Next(0), row(5, 1, 4, 0)}, {g.Next(1), row(5)}, {g.Next(2), row(5)}, {g.Next(3), row(5, 3)}, {g.Next(5), row(5, 0)},
		{g.Ahead(5), row(0, 1, 2, 3, 4, 5)}, {g.Ahead(0), row(0, 5)}, {g.Ahead(1), row(0)}, {g.Ahead(2), row()}, {g.Ahead(3), row(3)}, {g.Ahead(4), row(0)},
	} {
		if !slices.Equal(c.got, c.want) {
			t.Errorf("%v; not %v", c.got, c.want)
		}
	}
}

// P14.4: Reached goes by ways of any length; the node 0 is reached without an edge, and what leads to it is not by that.
func TestReached(t *testing.T) {
	n := 300
	next := make([][]int, n)
	for i := range n - 1 {
		next[i] = row((i + 1) % n)
	}
	g := graphOf(t, next)
	next[200] = row()
	cut := graphOf(t, next)
	for i := range n {
		if !g.Reached(i) || cut.Reached(i) != (i <= 200) {
			t.Errorf("%d: %v, %v", i, g.Reached(i), cut.Reached(i))
		}
	}
	back := graphOf(t, edges(row(), row(0), row(0, 1)))
	if !back.Reached(0) || back.Reached(1) || back.Reached(2) {
		t.Error("what leads to the node 0")
	}
}

// P14.4, P14.5: of what is no node there is nothing.
func TestNoNode(t *testing.T) {
	for _, n := range []int{1, 2, 64, api.MaxNodes - 1, api.MaxNodes} {
		next := make([][]int, n)
		next[0], next[n-1] = row(n-1, 0), row(n-1, 0)
		g := graphOf(t, next)
		for _, i := range noNodes(n) {
			holdNothing(t, g, i)
		}
		if !g.Reached(n-1) || len(g.Next(n-1)) == 0 || len(g.Ahead(n-1)) == 0 {
			t.Errorf("the last one of %d", n)
		}
	}
}

// P14.1, P14.4, P14.5: as many nodes as a graph may have: in a row, in a row backwards, as a star, and each with edges to all.
func TestAtLimit(t *testing.T) {
	n := api.MaxNodes
	line, back, star, full := make([][]int, n), make([][]int, n), make([][]int, n), make([][]int, n)
	all := make([]int, n)
	for i := range n {
		all[i] = i
	}
	for i := range n {
		full[i] = all
		if i < n-1 {
			line[i] = row(i+1, i+1)
			back[i+1] = row(i)
		}
	}
	back[0] = row(n - 1)
	star[0] = all
	upwards, downwards := slices.Clone(all), slices.Clone(all[1:])
	slices.Reverse(downwards)
	downwards = append(row(0), downwards...)
	for name, c := range map[string]struct {
		next        [][]int
		walk, order []int
	}{
		"a row":      {line, upwards, upwards},
		"a row back": {back, downwards, downwards},
		"a star":     {star, upwards, downwards},
	} {
		g := graphOf(t, c.next)
		if !slices.Equal(walked(g), c.walk) || !slices.Equal(g.Order(), c.order) {
			t.Errorf("%s: Walk or Order", name)
		}
		for i := range n {
			if !g.Reached(i) {
				t.Fatalf("%s: %d is not reached", name, i)
			}
		}
	}
	g := graphOf(t, full)
	if !slices.Equal(walked(g), upwards) || !slices.Equal(g.Order(), upwards) {
		t.Error("all edges: Walk or Order")
	}
	for _, i := range row(0, 1, n/2, n-1) {
		if !slices.Equal(g.Next(i), all) || !slices.Equal(g.Ahead(i), all) {
			t.Errorf("%d: Next or Ahead", i)
		}
	}
}
