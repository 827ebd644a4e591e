package nest

import (
	"slices"
	"testing"

	"intaglio/api"
)

// most is how many nodes a graph may have.
const most = api.MaxNodes

// fromTo are the numbers from one to another one.
func fromTo(from, to int) []int {
	var l []int
	for i := from; i <= to; i++ {
		l = append(l, i)
	}
	return l
}

// chain is a plan of edges from each node to the next, without merges.
func chain(n int) plan {
	p := plan{make([][]int, n), nos(n)}
	for i := range n - 1 {
		p.next[i] = row(i + 1)
	}
	return p
}

// P16.1, P16.2: a chain of as many nodes as there may be, with no merges, with one around all of it, and with an edge back.
func TestLongChain(t *testing.T) {
	p := chain(most)
	holdFlaws(t, p.next, p.merges)
	g := graphOf(t, p.next)
	holdNoConstruct(t, g, p.merges, api.ErrNone, 0, 2000, most-1)
	holdNoConstruct(t, g, p.merges, api.ErrRange, noNodes(most)...)
	p.merges[0] = sel(most - 1)
	holdFlaws(t, p.next, p.merges)
	g = graphOf(t, p.next)
	holdConstruct(t, g, p.merges, 0, fromTo(0, most-2)...)
	for _, i := range row(0, 1, most/2, most-2) {
		if head, e := Inner(g, p.merges, i); head != 0 || e != api.OK {
			t.Errorf("Inner(%d): %d, %d", i, head, e)
		}
	}
	// The last but one leads back, and the last one is behind the loop.
	p = chain(most)
	p.next[most-2] = row(0)
	p.merges[0] = loop(most-1, most-2)
	holdFlaws(t, p.next, p.merges)
	p.merges[0] = loop(most-1, most-3)
	holdFlaws(t, p.next, p.merges)
	p.next[most-3] = row(most-2, most-1)
	holdFlaws(t, p.next, p.merges, flaw(most-3, bare))
	p.next[most-3] = row(most-2, 0)
	holdFlaws(t, p.next, p.merges, flaw(0, back), flaw(most-3, bare))
	p.next[most-3] = row(0)
	holdFlaws(t, p.next, p.merges)
}

// nested is a plan of most nodes, in which constructs stand within one another as deep as that goes: the first half are the heads, the second half where they end, the innermost one's first.
func nested(m func(to int) api.Merge) plan {
	p := chain(most)
	for i := range most/2 - 1 {
		p.merges[i] = m(most - 1 - i)
	}
	return p
}

// P16.1, P16.2: constructs within one another, as many as there may be; what leads out of all of them.
func TestDeep(t *testing.T) {
	for _, m := range []func(int) api.Merge{sel, sw} {
		p := nested(m)
		holdFlaws(t, p.next, p.merges)
		g := graphOf(t, p.next)
		for _, head := range row(0, 1, 1000, most/2-2) {
			holdConstruct(t, g, p.merges, head, fromTo(head, most-2-head)...)
		}
		for _, c := range [][2]int{{0, 0}, {1, 1}, {1000, 1000}, {most/2 - 2, most/2 - 2}, {most/2 - 1, most/2 - 2}, {most / 2, most/2 - 2}, {most/2 + 1, most/2 - 3}, {most - 2, 0}, {most - 1, -1}} {
			if head, e := Inner(g, p.merges, c[0]); head != c[1] || e != api.OK {
				t.Errorf("Inner(%d): %d, %d; not %d", c[0], head, e, c[1])
			}
		}
		p.next[most/2-1] = row(most - 1)
		holdFlaws(t, p.next, p.merges, flaw(most/2-1, exit))
		p.next[most/2-1] = row(most/2 + 1)
		p.merges[0] = no
		holdFlaws(t, p.next, p.merges)
	}
	// Out of all of them by a break: what is within the outermost one are selections.
	p := nested(sel)
	p.merges[0] = sw(most - 1)
	p.next[most/2-1] = row(most - 1)
	holdFlaws(t, p.next, p.merges)
	p.merges[1] = sw(most - 2)
	holdFlaws(t, p.next, p.merges, flaw(most/2-1, exit))
}

// P16.1: as many heads as there may be, each of which says the same, or what is wrong otherwise.
func TestManyHeads(t *testing.T) {
	p := chain(most)
	var want []api.Flaw
	for i := range most {
		p.merges[i] = sel(i)
		want = append(want, flaw(i, merge))
	}
	holdFlaws(t, p.next, p.merges, want...)
	for i := range most {
		p.merges[i] = sel(0)
	}
	holdFlaws(t, p.next, p.merges, want...)
	for i := range most - 1 {
		p.merges[i] = loop(i+1, i)
	}
	p.merges[most-1] = no
	holdFlaws(t, p.next, p.merges)
	p.merges[most-1] = loop(most-1, most-2)
	holdFlaws(t, p.next, p.merges, flaw(most-2, merge), flaw(most-1, merge))
}

// P16.1: very many edges: of a switch each arm leads to all behind it, which is wrong since it chooses without a merge alone; then each leads to all, so that they lie on a ring.
func TestManyEdges(t *testing.T) {
	const half = 1200
	p := plan{make([][]int, half+2), nos(half + 2)}
	p.next[0] = fromTo(1, half)
	p.merges[0] = sw(half + 1)
	var bares, rings []api.Flaw
	for i := 1; i <= half; i++ {
		p.next[i] = fromTo(i+1, half+1)
		if i < half {
			bares = append(bares, flaw(i, bare))
		}
		rings = append(rings, flaw(i, bare), flaw(i, back))
	}
	holdFlaws(t, p.next, p.merges, bares...)
	for i := 1; i <= half; i++ {
		p.next[i] = fromTo(1, half+1)
	}
	holdFlaws(t, p.next, p.merges, rings...)
}

// P16.1: a ring of as many nodes as there may be, with ways in at both ends; with one way in it is none, since each edge to the node ahead is one back.
func TestLongRing(t *testing.T) {
	p := chain(most)
	var want []api.Flaw
	for i := 2; i < most-1; i++ {
		p.next[i] = append(p.next[i], i-1)
		want = append(want, flaw(i, bare), flaw(i, back))
	}
	p.next[most-1] = row(most - 2)
	want = append(want, flaw(most-1, back))
	holdFlaws(t, p.next, p.merges, want...)
	p.next[0] = row(1, most-1)
	holdFlaws(t, p.next, p.merges, slices.Concat(flaws(flaw(0, bare), flaw(1, back)), want)...)
}
