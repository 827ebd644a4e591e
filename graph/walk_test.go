package graph

import (
	"slices"
	"testing"
)

// P14.5: the order in which the walk comes to nodes, and the opposite of that in which it leaves them.
func TestWalkAndOrder(t *testing.T) {
	for _, c := range []struct {
		next        [][]int
		walk, order []int
	}{
		{edges(row()), row(0), row(0)},
		{edges(row(0, 0)), row(0), row(0)},
		{edges(row(), row(0)), row(0), row(0)},
		{edges(row(1), row(2), row(3), row()), row(0, 1, 2, 3), row(0, 1, 2, 3)},
		// Two ways to one node: all behind the first of Next is gone through first.
		{edges(row(1, 2), row(3), row(3), row()), row(0, 1, 3, 2), row(0, 2, 1, 3)},
		{edges(row(2, 1), row(3), row(3), row()), row(0, 2, 3, 1), row(0, 1, 2, 3)},
		// A short cut that is told first, and last.
		{edges(row(2, 1), row(2), row()), row(0, 2, 1), row(0, 1, 2)},
		{edges(row(1, 2), row(2), row()), row(0, 1, 2), row(0, 1, 2)},
		// An edge told again later counts where it stands first.
		{edges(row(1, 2, 1), row(), row()), row(0, 1, 2), row(0, 2, 1)},
		{edges(row(2, 1, 2), row(), row()), row(0, 2, 1), row(0, 1, 2)},
		// Edges back, to itself, and to what is left already.
		{edges(row(1), row(2, 5), row(3, 4), row(2), row(1), row()), row(0, 1, 2, 3, 4, 5), row(0, 1, 5, 2, 4, 3)},
		{edges(row(3, 1), row(1, 3, 2), row(0), row(0)), row(0, 3, 1, 2), row(0, 1, 2, 3)},
		{edges(row(4), row(4), row(1), row(2), row(3)), row(0, 4, 3, 2, 1), row(0, 4, 3, 2, 1)},
		// Nodes that are not reached are not told, whatever their edges.
		{edges(row(3), row(2, 3), row(1), row(), row(0, 1, 2, 3, 4)), row(0, 3), row(0, 3)},
	} {
		g := graphOf(t, c.next)
		if l := walked(g); !slices.Equal(l, c.walk) {
			t.Errorf("Walk of %v: %v; not %v", c.next, l, c.walk)
		}
		if l := g.Order(); !slices.Equal(l, c.order) {
			t.Errorf("Order of %v: %v; not %v", c.next, l, c.order)
		}
		holdGraph(t, g, c.next)
	}
}

// P14.1, P14.4, P14.5: graphs made by chance.
func TestGraphsByChance(t *testing.T) {
	d := dice(141)
	unreached, repeated, selves := 0, 0, 0
	for range 1500 {
		next := d.edges(1 + d.below(1+d.below(90)))
		g := graphOf(t, next)
		holdGraph(t, g, next)
		for i := range next {
			if !g.Reached(i) {
				unreached++
			}
			if len(g.Next(i)) < len(next[i]) {
				repeated++
			}
			if slices.Contains(next[i], i) {
				selves++
			}
		}
	}
	if unreached < 500 || repeated < 500 || selves < 500 {
		t.Errorf("%d not reached, %d with edges told twice, %d to themselves", unreached, repeated, selves)
	}
}

// R6: Walk may be left at each place, and gone through again; one of several may be left within another.
func TestWalkLeftEarly(t *testing.T) {
	for _, next := range graphs() {
		g := graphOf(t, next)
		want, _ := saidWalk(next)
		walk := g.Walk()
		for n := 1; n <= len(want); n++ {
			var l []int
			for i := range walk {
				l = append(l, i)
				if len(l) == n {
					break
				}
			}
			if !slices.Equal(l, want[:n]) {
				t.Errorf("left behind %d: %v; not %v", n, l, want[:n])
			}
			if l := slices.Collect(walk); !slices.Equal(l, want) {
				t.Errorf("gone through again: %v; not %v", l, want)
			}
		}
		for i := range walk {
			var l []int
			for k := range walk {
				if l = append(l, k); k == i {
					break
				}
			}
			if l[len(l)-1] != i {
				t.Errorf("within another: %v", l)
			}
		}
	}
}
