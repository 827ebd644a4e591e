package nest

import (
	"slices"
	"testing"

	"intaglio/api"
	"intaglio/graph"
)

// holdConstruct says whether the construct of a head has just these nodes.
func holdConstruct(t *testing.T, g *graph.Graph, l []api.Merge, head int, want ...int) {
	t.Helper()
	if nodes, e := Construct(g, l, head); e != api.OK || !slices.Equal(nodes, want) {
		t.Errorf("Construct(%d) of %v: %v, %d; not %v", head, l, nodes, e, want)
	}
}

// holdNoConstruct says whether Construct answers that error, and nothing beside it.
func holdNoConstruct(t *testing.T, g *graph.Graph, l []api.Merge, want api.Errno, heads ...int) {
	t.Helper()
	for _, head := range heads {
		if nodes, e := Construct(g, l, head); e != want || len(nodes) != 0 {
			t.Errorf("Construct(%d) of %v: %v, %d; not %d", head, l, nodes, e, want)
		}
	}
}

// holdInner says whether these are the heads of the innermost constructs around each node.
func holdInner(t *testing.T, g *graph.Graph, l []api.Merge, want ...int) {
	t.Helper()
	for i, head := range want {
		if got, e := Inner(g, l, i); e != api.OK || got != head {
			t.Errorf("Inner(%d) of %v: %d, %d; not %d", i, l, got, e, head)
		}
	}
}

// P16.2: constructs within one another.
func TestConstruct(t *testing.T) {
	g := graphOf(t, edges(row(1), row(2, 6), row(3, 4), row(6), row(5), row(1), row()))
	l := merges(no, loop(6, 5), sel(4), no, no, no, no)
	holdConstruct(t, g, l, 1, 1, 2, 3, 4, 5)
	holdConstruct(t, g, l, 2, 2, 3)
	holdNoConstruct(t, g, l, api.ErrNone, 0, 3, 4, 5, 6)
	holdInner(t, g, l, -1, 1, 2, 2, 1, 1, -1)
	l[2] = sw(4)
	holdConstruct(t, g, l, 2, 2, 3)
	l[4] = sel(5)
	holdConstruct(t, g, l, 4, 4)
	holdConstruct(t, g, l, 1, 1, 2, 3, 4, 5)
	holdInner(t, g, l, -1, 1, 2, 2, 4, 1, -1)
	l = nos(7)
	holdNoConstruct(t, g, l, api.ErrNone, 0, 1, 2, 3, 4, 5, 6)
	holdInner(t, g, l, -1, -1, -1, -1, -1, -1, -1)
	// Whatever the order of the numbers is.
	g = graphOf(t, edges(row(6), row(), row(6), row(2), row(5, 3), row(1), row(4, 1)))
	l = merges(no, no, no, no, sel(3), no, loop(1, 2))
	holdConstruct(t, g, l, 6, 2, 3, 4, 5, 6)
	holdConstruct(t, g, l, 4, 4, 5)
	holdInner(t, g, l, -1, -1, 6, 6, 4, 4, 6)
}

// P16.2: whether a graph is well nested is not asked: a construct is what its head dominates, and its To does not.
func TestConstructOfWhatever(t *testing.T) {
	// The To dominates the head: no node is in it.
	g := graphOf(t, edges(row(1), row(2), row()))
	for _, m := range merges(sel(0), sw(1), loop(0, 2), loop(1, 1)) {
		l := merges(no, m, no)
		holdConstruct(t, g, l, 1)
		holdInner(t, g, l, -1, -1, -1)
		l[0] = sel(2)
		holdConstruct(t, g, l, 0, 0, 1)
		holdInner(t, g, l, 0, 0, -1)
	}
	holdConstruct(t, graphOf(t, edges(row())), merges(sel(0)), 0)
	holdInner(t, graphOf(t, edges(row())), merges(sel(0)), -1)
	// It is beside the head: all that the head dominates is in it.
	g = graphOf(t, edges(row(1, 2), row(3), row(), row()))
	holdConstruct(t, g, merges(no, sel(2), no, no), 1, 1, 3)
	holdConstruct(t, g, merges(no, loop(2, 0), no, no), 1, 1, 3)
	// Two have one To: the lower one is in the upper one.
	l := merges(sel(3), sel(3), no, no)
	holdConstruct(t, g, l, 0, 0, 1, 2)
	holdConstruct(t, g, l, 1, 1)
	holdInner(t, g, l, 0, 1, 0, -1)
	// What is behind the To is in none, also if that leads back in.
	g = graphOf(t, edges(row(1), row(4), row(), row(), row(3)))
	l = merges(no, loop(4, 3), no, no, no)
	holdConstruct(t, g, l, 1, 1, 3)
	holdInner(t, g, l, -1, 1, -1, 1, -1)
}

// P16.2: what stands by the wide graph's edges alone is in constructs; what does not stand is in none, and has none.
func TestConstructStanding(t *testing.T) {
	g := graphOf(t, edges(row(1), row(), row(4), row(), row(), row(6, 1), row()))
	l := merges(no, loop(3, 2), no, sel(4), no, sel(6), no)
	holdConstruct(t, g, l, 1, 1, 2, 4)
	holdConstruct(t, g, l, 3, 3)
	holdNoConstruct(t, g, l, api.ErrNone, 0, 2, 4, 5, 6)
	holdInner(t, g, l, -1, 1, 1, 3, 1, -1, -1)
	// Without the loop nothing of that stands.
	l[1] = no
	holdNoConstruct(t, g, l, api.ErrNone, 0, 1, 2, 3, 4, 5, 6)
	holdInner(t, g, l, -1, -1, -1, -1, -1, -1, -1)
}

// P16.2: ErrRange of what is no node: below 0, the one behind the last, and others.
func TestConstructRange(t *testing.T) {
	g := graphOf(t, edges(row(1, 2), row(3), row(3), row()))
	for _, l := range [][]api.Merge{merges(sel(3), no, no, no), nos(4), merges(sel(3), no, no, loop(3, 3))} {
		holdNoConstruct(t, g, l, api.ErrRange, noNodes(4)...)
		for _, i := range noNodes(4) {
			if head, e := Inner(g, l, i); e != api.ErrRange || head != 0 {
				t.Errorf("Inner(%d): %d, %d", i, head, e)
			}
		}
	}
	holdConstruct(t, g, merges(sel(3), no, no, loop(3, 3)), 3)
	holdInner(t, g, merges(sel(3), no, no, sel(2)), 0, 0, 0, 3)
}
