package dom

import (
	"slices"
	"testing"
)

// holdOrder says whether to dominate is an order among the nodes of a tree: each that is reached dominates itself; two that dominate one another are one; what dominates what dominates b dominates b.
func holdOrder(t *testing.T, d *Tree, next [][]int) {
	t.Helper()
	reached := saidWithout(next, -1)
	for a := range next {
		if d.Dominates(a, a) != reached[a] {
			t.Fatalf("Dominates(%d, %d) of %v", a, a, next)
		}
		for b := range next {
			if a != b && d.Dominates(a, b) && d.Dominates(b, a) {
				t.Fatalf("%d and %d dominate one another in %v", a, b, next)
			}
			for c := range next {
				if d.Dominates(a, b) && d.Dominates(b, c) && !d.Dominates(a, c) {
					t.Fatalf("%d dominates %d, that %d, in %v", a, b, c, next)
				}
			}
		}
	}
}

// holdLine says whether of two nodes that dominate a node one dominates the other; it answers of how many that was asked.
func holdLine(t *testing.T, d *Tree, next [][]int) int {
	t.Helper()
	count := 0
	for b := range next {
		for a := range next {
			for c := range a {
				if d.Dominates(a, b) && d.Dominates(c, b) {
					count++
					if !d.Dominates(a, c) && !d.Dominates(c, a) {
						t.Fatalf("%d and %d dominate %d in %v", a, c, b, next)
					}
				}
			}
		}
	}
	return count
}

// holdNextUp says whether Over is the next one up: a node dominates another just if it is among that one's Up, and Depth of Over is one less.
func holdNextUp(t *testing.T, d *Tree, next [][]int) {
	t.Helper()
	for b := range next {
		up := upFrom(d, b)
		for a := range next {
			if slices.Contains(up, a) != d.Dominates(a, b) {
				t.Fatalf("Up(%d): %v; Dominates(%d, %d): %v; of %v", b, up, a, b, d.Dominates(a, b), next)
			}
		}
		for at, i := range up {
			over := -1
			if at+1 < len(up) {
				over = up[at+1]
			}
			if d.Over(i) != over || d.Depth(i) != len(up)-1-at {
				t.Fatalf("Up(%d): %v; Over(%d): %d, Depth %d; of %v", b, up, i, d.Over(i), d.Depth(i), next)
			}
		}
		if over := d.Over(b); over >= 0 && d.Depth(over) != d.Depth(b)-1 {
			t.Fatalf("Depth(%d): %d; over it %d: %d", b, d.Depth(b), over, d.Depth(over))
		}
	}
}

// without is edges without those from and to a node.
func without(next [][]int, a int) [][]int {
	other := make([][]int, len(next))
	for i, l := range next {
		if i != a {
			other[i] = slices.DeleteFunc(slices.Clone(l), func(to int) bool { return to == a })
		}
	}
	return other
}

// holdOtherwise says whether no node dominates what is reached otherwise than through it; and whether it does dominate what else is reached.
func holdOtherwise(t *testing.T, d *Tree, next [][]int) {
	t.Helper()
	for a := 1; a < len(next); a++ {
		g := graphOf(t, without(next, a))
		for b := range next {
			if g.Reached(b) && d.Dominates(a, b) {
				t.Fatalf("%d dominates %d, to which a way leads without it, in %v", a, b, next)
			}
			if a != b && !g.Reached(b) && d.Depth(b) >= 0 && !d.Dominates(a, b) {
				t.Fatalf("%d does not dominate %d, to which no way leads without it, in %v", a, b, next)
			}
		}
	}
}

// P15.5: each sentence, of graphs of many kinds and of graphs made by chance.
func TestFollows(t *testing.T) {
	d := dice(1503)
	all := graphs()
	for range 1500 {
		all = append(all, d.edges(25))
	}
	for range 10 {
		all = append(all, d.edges(90))
	}
	count := 0
	for _, next := range all {
		tree := treeOf(t, next)
		holdOrder(t, tree, next)
		count += holdLine(t, tree, next)
		holdNextUp(t, tree, next)
		holdOtherwise(t, tree, next)
	}
	if count < 5000 {
		t.Errorf("%d times two dominate one", count)
	}
}

// P15.5: in which order edges stand, how often, and what stands elsewhere, does not matter: each node's edges are the same.
func TestOrderOfEdges(t *testing.T) {
	d := dice(1504)
	for range 800 {
		next := d.edges(30)
		want := asked(treeOf(t, next), len(next))
		other := make([][]int, len(next))
		for i, l := range next {
			other[i] = slices.Concat(l, l)
			slices.Reverse(other[i])
		}
		if got := asked(treeOf(t, other), len(next)); !got.equal(want) {
			t.Fatalf("of %v: %v; not %v", other, got, want)
		}
		// What is not reached may lead anywhere.
		reached := saidWithout(next, -1)
		for i := range other {
			if !reached[i] {
				other[i] = fromTo(0, len(next)-1)
			}
		}
		if got := asked(treeOf(t, other), len(next)); !got.equal(want) {
			t.Fatalf("of %v: %v; not %v", other, got, want)
		}
	}
}

// P15.3, P15.5: Near is among Up of both, and nothing else that is stands below it; it is a node itself just if that dominates the other.
func TestNearFollows(t *testing.T) {
	d := dice(1505)
	for range 500 {
		next := d.edges(25)
		tree := treeOf(t, next)
		for a := range next {
			for b := range next {
				node, is := tree.Near(a, b)
				other, also := tree.Near(b, a)
				if node != other || is != also || is != (tree.Depth(a) >= 0 && tree.Depth(b) >= 0) {
					t.Fatalf("Near(%d, %d): %d, %v; %d, %v", a, b, node, is, other, also)
				}
				if !is {
					continue
				}
				both := slices.DeleteFunc(upFrom(tree, a), func(i int) bool { return !tree.Dominates(i, b) })
				if both[0] != node || (node == a) != tree.Dominates(a, b) {
					t.Fatalf("Near(%d, %d): %d; %v", a, b, node, both)
				}
			}
		}
	}
}

// P15.4, P15.5: of edges that all lead upwards none is an edge back; a node is in its own frontier just if an edge back leads to it.
func TestBacksFollow(t *testing.T) {
	d := dice(1506)
	own := 0
	for range 800 {
		if l := treeOf(t, d.upwards(1+d.below(40))).Backs(); len(l) != 0 {
			t.Fatalf("Backs: %v", l)
		}
		next := d.edges(25)
		tree := treeOf(t, next)
		backs := tree.Backs()
		for i := range next {
			to := slices.ContainsFunc(backs, func(e [2]int) bool { return e[1] == i })
			if slices.Contains(tree.Frontier(i), i) != to {
				t.Fatalf("Frontier(%d): %v; Backs %v", i, tree.Frontier(i), backs)
			}
			if to {
				own++
			}
		}
	}
	if own < 500 {
		t.Errorf("%d in their own frontiers", own)
	}
}
