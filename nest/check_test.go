package nest

import (
	"testing"

	"intaglio/api"
)

// P16.1, P16.2: the chapter's examples.
func TestExamples(t *testing.T) {
	diamond := edges(row(1, 2), row(3), row(3), row())
	holdFlaws(t, diamond, merges(sel(3), no, no, no))
	holdFlaws(t, diamond, nos(4), flaw(0, bare))
	holdFlaws(t, edges(row(1), row(2, 4), row(3), row(1), row()), merges(no, loop(4, 3), no, no, no))
	holdFlaws(t, edges(row(1), row(2, 4), row(1), row(), row()), merges(no, loop(4, 3), no, no, no), flaw(2, back))
	holdFlaws(t, edges(row(1, 2), row(0), row(), row()), merges(sel(2), no, no, no), flaw(1, back))
	holdFlaws(t, edges(row(1), row(2, 6), row(3, 4), row(6), row(5), row(1), row()), merges(no, loop(6, 5), sel(4), no, no, no, no))
	holdFlaws(t, edges(row(1), row(2, 5), row(3, 4), row(5), row(1), row()), merges(no, loop(5, 4), sel(4), no, no, no), flaw(2, merge))
	holdFlaws(t, edges(row(1, 2), row(1), row()), merges(sel(2), sel(2), no), flaw(0, merge), flaw(1, merge), flaw(1, back))
	holdFlaws(t, edges(row(1, 4), row(2, 3), row(4), row(4), row()), merges(sel(4), sel(3), no, no, no), flaw(2, exit))
	holdFlaws(t, edges(row(1), row(4), row(), row(), row(3)), merges(no, loop(4, 3), no, no, no), flaw(4, exit))
	g := graphOf(t, diamond)
	holdConstruct(t, g, merges(sel(3), no, no, no), 0, 0, 1, 2)
	holdInner(t, g, merges(sel(3), no, no, no), 0, 0, 0, -1)
}

// P16.1: graphs of one node, with each merge that it may have.
func TestOneNode(t *testing.T) {
	for _, c := range []struct {
		next []int
		m    api.Merge
		want []api.Flaw
	}{
		{row(), no, nil},
		{row(), sel(0), flaws(flaw(0, merge))},
		{row(), sw(0), flaws(flaw(0, merge))},
		{row(), loop(0, 0), flaws(flaw(0, merge))},
		{row(0), no, flaws(flaw(0, back))},
		{row(0, 0), no, flaws(flaw(0, back))},
		{row(0), sel(0), flaws(flaw(0, merge), flaw(0, back))},
		{row(0), sw(0), flaws(flaw(0, merge), flaw(0, back))},
		{row(0), loop(0, 0), flaws(flaw(0, merge))},
	} {
		holdFlaws(t, edges(c.next), merges(c.m), c.want...)
	}
}

// P16.1: ErrBare: two nodes or more in Next, and no merge.
func TestBare(t *testing.T) {
	three := edges(row(1, 2), row(), row())
	holdFlaws(t, three, nos(3), flaw(0, bare))
	holdFlaws(t, three, merges(sel(1), no, no))
	holdFlaws(t, three, merges(sel(2), no, no))
	holdFlaws(t, three, merges(sw(2), no, no))
	holdFlaws(t, three, merges(loop(2, 1), no, no))
	// An edge that stands twice leads to one node.
	holdFlaws(t, edges(row(1, 1), row()), nos(2))
	holdFlaws(t, edges(row(1, 1, 1, 2), row(), row()), nos(3), flaw(0, bare))
	// To itself, and to another one.
	holdFlaws(t, edges(row(0, 1), row()), nos(2), flaw(0, bare), flaw(0, back))
	// Several nodes; among many that is none.
	holdFlaws(t, edges(row(1, 2), row(3, 4), row(4), row(4), row()), nos(5), flaw(0, bare), flaw(1, bare))
	holdFlaws(t, edges(row(1), row(2), row(3, 4), row(4), row()), nos(5), flaw(2, bare))
	// Many at once.
	holdFlaws(t, edges(row(1, 2, 3), row(4), row(4), row(4), row()), merges(sw(4), no, no, no, no))
	holdFlaws(t, edges(row(1, 2, 3), row(4), row(4), row(4), row()), nos(5), flaw(0, bare))
	holdFlaws(t, edges(row(1), row(2, 3, 4), row(4), row(1), row()), merges(no, loop(4, 3), no, no, no))
}

// P16.1: ErrMerge: what is wrong with where a construct ends.
func TestMergeTo(t *testing.T) {
	// It does not dominate it: what is ahead, what is beside, what is come to otherwise.
	holdFlaws(t, edges(row(1), row()), merges(no, sel(0)), flaw(1, merge))
	holdFlaws(t, edges(row(1), row()), merges(no, sw(0)), flaw(1, merge))
	holdFlaws(t, edges(row(1), row(2), row()), merges(no, loop(0, 2), no), flaw(1, merge))
	holdFlaws(t, edges(row(1, 2), row(), row(), row()), merges(sel(3), sel(2), no, no), flaw(1, merge))
	holdFlaws(t, edges(row(1, 2), row(2), row(), row()), merges(sel(3), sel(2), no, no), flaw(1, merge))
	// It is itself.
	holdFlaws(t, edges(row(1), row(2), row()), merges(no, sel(1), no), flaw(1, merge))
	holdFlaws(t, edges(row(1), row(2), row()), merges(no, loop(1, 2), no), flaw(1, merge))
	// It is right.
	holdFlaws(t, edges(row(1), row()), merges(sel(1), no))
	holdFlaws(t, edges(row(), row()), merges(sel(1), no))
	holdFlaws(t, edges(row(1), row(2), row()), merges(no, sw(2), no))
	// Two heads have the same: the upper one dominates it.
	holdFlaws(t, edges(row(1, 3), row(2), row(), row()), merges(sel(3), sel(3), no, no), flaw(0, merge), flaw(1, merge))
	holdFlaws(t, edges(row(1, 3), row(2), row(), row()), merges(sw(3), sel(3), no, no), flaw(0, merge), flaw(1, merge))
	holdFlaws(t, edges(row(1, 3), row(2), row(), row()), merges(sel(3), loop(3, 2), no, no), flaw(0, merge), flaw(1, merge))
	holdFlaws(t, edges(row(1, 4), row(2, 3), row(), row(), row()), merges(sw(4), loop(4, 3), sw(4), no, no), flaw(0, merge), flaw(1, merge), flaw(2, merge))
	// The other one does not stand, or has it as what it does not look at.
	holdFlaws(t, edges(row(1), row(), row()), merges(sel(1), no, sel(1)))
	holdFlaws(t, edges(row(1, 2), row(), row()), merges(sel(2), api.Merge{To: 2, Continue: 2}, no))
}

// P16.1: ErrMerge: what is wrong with where a loop goes on.
func TestMergeContinue(t *testing.T) {
	three := edges(row(1), row(2), row())
	holdFlaws(t, three, merges(no, loop(2, 2), no), flaw(1, merge))
	holdFlaws(t, three, merges(no, loop(2, 0), no), flaw(1, merge))
	holdFlaws(t, three, merges(no, loop(2, 1), no))
	holdFlaws(t, edges(row(1), row(1, 2), row()), merges(no, loop(2, 1), no))
	// It is come to otherwise.
	holdFlaws(t, edges(row(1, 2), row(), row(), row(), row()), merges(sel(3), loop(4, 2), no, no, no), flaw(1, merge))
	// Two loops have the same: the upper one dominates it.
	holdFlaws(t, edges(row(1), row(2), row(3), row(), row()), merges(no, loop(2, 4), loop(3, 4), no, no), flaw(1, merge), flaw(2, merge))
	holdFlaws(t, edges(row(1), row(2), row(3), row(), row()), merges(no, loop(2, 4), sel(3), no, no))
	// The other one does not stand, or is no loop: then where it goes on is not looked at.
	holdFlaws(t, edges(row(1), row(2), row(), row(), row()), merges(no, loop(2, 4), no, loop(2, 4), no))
	holdFlaws(t, edges(row(1), row(2), row(3), row(), row()), merges(no, loop(2, 4), api.Merge{Kind: api.MergeSelection, To: 3, Continue: 4}, no, no))
	holdFlaws(t, edges(row(1), row()), merges(api.Merge{Kind: api.MergeSwitch, To: 1, Continue: 1}, no))
	// Where one goes on another one may not end: it does not dominate it.
	holdFlaws(t, edges(row(1), row(2), row(4), row(), row(1)), merges(no, loop(3, 4), sel(4), no, no), flaw(2, merge))
}

// P16.1: ErrBack: an edge back to what is no loop's head, or from where the loop does not go on.
func TestBackFrom(t *testing.T) {
	for _, m := range merges(sel(2), sw(2)) {
		holdFlaws(t, edges(row(1), row(1, 2), row()), merges(no, m, no), flaw(1, back))
		holdFlaws(t, edges(row(1, 2), row(0), row()), merges(m, no, no), flaw(1, back))
	}
	holdFlaws(t, edges(row(1), row(0)), nos(2), flaw(1, back))
	holdFlaws(t, edges(row(1), row(1)), nos(2), flaw(1, back))
	// Of a loop: from where it goes on, from what that dominates, from elsewhere.
	holdFlaws(t, edges(row(1), row(2, 4), row(3), row(1), row()), merges(no, loop(4, 2), no, no, no))
	holdFlaws(t, edges(row(1), row(2, 4), row(3), row(1), row()), merges(no, loop(4, 1), no, no, no))
	holdFlaws(t, edges(row(1), row(2, 4), row(1), row(), row()), merges(no, loop(4, 3), no, no, no), flaw(2, back))
	holdFlaws(t, edges(row(1), row(1, 3), row(), row()), merges(no, loop(3, 2), no, no), flaw(1, back))
	// The head itself may be where it goes on; then also what stands behind the loop is dominated by that.
	holdFlaws(t, edges(row(0, 1), row()), merges(loop(1, 0), no))
	holdFlaws(t, edges(row(1), row(2), row(1)), merges(no, loop(2, 1), no))
	holdFlaws(t, edges(row(1), row(2), row(1), row()), merges(no, loop(2, 3), no, no), flaw(2, back))
	// To the head of the loop around, from where the inner one goes on.
	holdFlaws(t, edges(row(1), row(2), row(5), row(1), row(1), row(4), row()), merges(no, loop(6, 4), loop(5, 3), no, no, no, no), flaw(1, back), flaw(3, back), flaw(3, exit))
}

// P16.1: ErrBack: two edges back to one node; each edge is told once by the graph.
func TestBackTwice(t *testing.T) {
	holdFlaws(t, edges(row(1), row(2, 3, 4), row(1), row(1), row()), merges(no, loop(4, 1), no, no, no), flaw(1, back))
	holdFlaws(t, edges(row(1), row(1, 2, 3), row(1), row()), merges(no, loop(3, 1), no, no), flaw(1, back))
	holdFlaws(t, edges(row(1), row(2, 3), row(1, 1, 1), row()), merges(no, loop(3, 2), no, no))
	holdFlaws(t, edges(row(1), row(1, 1, 2), row()), merges(no, loop(2, 1), no))
	// Of a selection in the part that goes on one arm would leave that.
	holdFlaws(t, edges(row(1), row(2), row(3, 4), row(1), row(1), row()), merges(no, loop(5, 2), sel(4), no, no, no), flaw(1, back), flaw(3, exit))
	// From what does not stand, or forward, none is one back.
	holdFlaws(t, edges(row(1), row(2, 3), row(1), row(), row(1), row(1)), merges(no, loop(3, 2), no, no, no, no))
	holdFlaws(t, edges(row(1, 2), row(3), row(3), row(4, 5), row(3), row()), merges(sel(3), no, no, loop(5, 4), no, no))
}

// P16.1: ErrBack: rings of edges that are none back: each node that lies on one, and no other.
func TestBackRings(t *testing.T) {
	holdFlaws(t, edges(row(1, 2), row(2), row(1), row()), merges(sel(3), no, no, no), flaw(1, back), flaw(2, back))
	holdFlaws(t, edges(row(1, 3), row(2), row(3), row(1), row()), merges(sel(4), no, no, no, no), flaw(1, back), flaw(2, back), flaw(3, back))
	// Where one leads in, where one leads out, and what lies between two.
	holdFlaws(t, edges(row(1, 2), row(2), row(1, 3), row(4, 5), row(5), row(4), row()), merges(sel(6), no, no, no, no, no, no),
		flaw(1, back), flaw(2, bare), flaw(2, back), flaw(3, bare), flaw(4, back), flaw(5, back))
	// Two with a node in common.
	holdFlaws(t, edges(row(1, 2, 3), row(2), row(1, 3), row(2), row()), merges(sw(4), no, no, no, no), flaw(1, back), flaw(2, bare), flaw(2, back), flaw(3, back))
	// An edge of the wide graph leads into it beside the head, but it is no edge of a ring.
	holdFlaws(t, edges(row(1), row(2), row(1)), merges(sel(2), no, no), flaw(1, back), flaw(2, back), flaw(2, exit))
	holdFlaws(t, edges(row(1), row(2), row(), row()), merges(no, sel(3), loop(1, 1), no), flaw(2, merge))
	// A ring with an edge back is none.
	holdFlaws(t, edges(row(1), row(2, 4), row(3), row(1), row()), merges(no, loop(4, 3), no, no, no))
	// An edge to itself is one back, and makes no ring.
	holdFlaws(t, edges(row(1), row(1), row()), merges(sel(2), no, no), flaw(1, back))
	// What does not stand may lie on one, and lead to one.
	holdFlaws(t, edges(row(), row(2), row(1)), nos(3))
	holdFlaws(t, edges(row(1), row(), row(3, 1), row(2)), nos(4))
	// So may what stands by the wide graph's edges alone.
	holdFlaws(t, edges(row(), row(2), row(1), row()), merges(loop(1, 2), no, no, no), flaw(1, back), flaw(1, exit), flaw(2, back))
}

// P16.1: several errors of one node, in the order of the rules; of several nodes, rising.
func TestSeveral(t *testing.T) {
	for _, c := range []struct {
		to   []int
		m    api.Merge
		want []api.Errno
	}{
		{row(3), no, nil},
		{row(1, 4), no, []api.Errno{bare, back, exit}},
		{row(3, 4), no, []api.Errno{bare, exit}},
		{row(1, 3), no, []api.Errno{bare, back}},
		{row(0), no, []api.Errno{back, exit}},
		{row(1, 4), sel(2), []api.Errno{merge, back, exit}},
		{row(1, 4), loop(2, 2), []api.Errno{merge, back, exit}},
		{row(4, 3), sw(2), []api.Errno{merge, exit}},
		{row(3, 1, 2), sel(2), []api.Errno{merge, back}},
		// Each error is told once, however often there is a reason for it.
		{row(0, 1, 2, 3, 4), no, []api.Errno{bare, back, exit}},
		{row(0, 1, 2, 3, 4), loop(2, 0), []api.Errno{merge, back, exit}},
	} {
		var want []api.Flaw
		for _, e := range c.want {
			want = append(want, flaw(2, e))
		}
		holdFlaws(t, edges(row(1), row(2), c.to, row(4), row()), merges(sel(4), sel(3), c.m, no, no), want...)
	}
	holdFlaws(t, edges(row(1, 3), row(2, 0), row(3, 1, 4), row(3, 3, 0), row(0)), merges(no, sw(1), no, no, loop(0, 0)),
		flaw(0, bare), flaw(0, back), flaw(1, merge), flaw(1, back), flaw(2, bare), flaw(2, back), flaw(3, bare), flaw(3, back), flaw(4, merge), flaw(4, back))
}

// P16.1: what stands by the wide graph's edges alone is asked the same; it dominates what is behind it.
func TestStandsByMerge(t *testing.T) {
	holdFlaws(t, edges(row(), row(2, 3), row(), row()), merges(sel(1), no, no, no), flaw(1, bare))
	holdFlaws(t, edges(row(), row(2, 3), row(), row()), merges(sw(1), sel(1), no, no), flaw(0, merge), flaw(1, merge))
	holdFlaws(t, edges(row(), row(), row(0), row()), merges(loop(1, 2), no, no, no))
	holdFlaws(t, edges(row(), row(), row(0), row()), merges(loop(1, 3), no, no, no))
	holdFlaws(t, edges(row(), row(0), row(0), row()), merges(loop(1, 2), no, no, no), flaw(0, back), flaw(1, back))
	// The edges from a head to where it ends are no edges of the graph: they choose nothing, leave nothing, lead back nowhere.
	holdFlaws(t, edges(row(1), row(), row()), merges(no, loop(2, 1), no))
	holdFlaws(t, edges(row(1), row()), merges(no, sel(0)), flaw(1, merge))
	holdFlaws(t, edges(row(1), row(2), row()), merges(no, no, loop(0, 1)), flaw(2, merge))
	// But they are ways past other nodes.
	holdFlaws(t, edges(row(1), row(2, 3), row(1), row()), merges(sel(2), loop(3, 2), no, no), flaw(1, merge), flaw(1, back), flaw(1, exit), flaw(2, back), flaw(2, exit))
}

// P16.1: what does not stand has no flaws, and is none of another one's, whatever its edges and its merge.
func TestDoesNotStand(t *testing.T) {
	for _, to := range edges(row(), row(1), row(2), row(3), row(0, 1, 2, 3)) {
		for _, m := range merges(no, sel(3), sel(2), sw(0), sw(1), loop(2, 2), loop(2, 1), loop(3, 3)) {
			holdFlaws(t, edges(row(1, 2), row(2), row(), to), merges(sel(2), no, no, m))
			holdFlaws(t, edges(row(0, 1, 2), row(), row(), to), merges(loop(2, 0), no, no, m))
			holdFlaws(t, edges(row(1, 2), row(2), row(1), to), merges(no, no, no, m), flaw(0, bare), flaw(1, back), flaw(2, back))
		}
	}
}

// P16.1: fields of merges that have no meaning are not looked at.
func TestIdleFields(t *testing.T) {
	for _, n := range append(noNodes(4), 0, 1, 2, 3) {
		idle := api.Merge{To: n, Continue: n}
		for _, kind := range []uint8{api.MergeSelection, api.MergeSwitch} {
			m := api.Merge{Kind: kind, To: 3, Continue: n}
			holdFlaws(t, edges(row(1, 2), row(3), row(3), row()), merges(m, idle, idle, idle))
		}
		holdFlaws(t, edges(row(1), row(2, 3), row(1), row()), merges(idle, loop(3, 2), idle, idle))
		holdFlaws(t, edges(row(1, 2), row(), row(), row()), merges(idle, idle, idle, idle), flaw(0, bare))
	}
}

// P16.1: programs.
func TestPrograms(t *testing.T) {
	// A loop with a break, and with a choice behind it.
	holdFlaws(t, edges(row(1), row(2, 8), row(3, 4), row(8), row(5, 6), row(7), row(7), row(1), row()),
		merges(no, loop(8, 7), sel(4), no, sel(6), no, no, no, no))
	// A loop within a loop, in which one is gone on with early; where the outer one goes on the inner one may not end.
	inner := func(to int, m api.Merge) ([][]int, []api.Merge) {
		return edges(row(1), row(2, 9), row(3, to), row(4, 5), row(7), row(6), row(7), row(2), row(1), row(), row(8)),
			merges(no, loop(9, 8), loop(to, 7), m, no, no, no, no, no, no, no)
	}
	next, l := inner(10, sel(6))
	holdFlaws(t, next, l)
	next, l = inner(10, sel(5))
	holdFlaws(t, next, l)
	next, l = inner(8, sel(6))
	holdFlaws(t, next, l, flaw(2, merge))
	next, l = inner(10, sel(7))
	holdFlaws(t, next, l, flaw(3, merge))
	// A switch whose arms lead to one another.
	holdFlaws(t, edges(row(1, 2, 3, 4), row(2), row(4), row(2), row()), merges(sw(4), no, no, no, no))
	// A switch within a loop, with an arm that leaves it by a choice, and one that goes on with the loop.
	within := func(to int) ([][]int, []api.Merge) {
		return edges(row(1), row(2, 11), row(3, 4, 5, 6), row(4), row(7, 6), row(10), row(8), row(6), row(9), row(10), row(1), row()),
			merges(no, loop(11, 10), sw(to), no, sel(7), no, no, no, no, no, no, no)
	}
	next, l = within(6)
	holdFlaws(t, next, l)
	// If it ends behind that, the choice leads to another arm: past where it ends itself.
	next, l = within(8)
	holdFlaws(t, next, l, flaw(4, exit))
}
