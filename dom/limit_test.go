package dom

import (
	"slices"
	"testing"

	"intaglio/api"
)

// most is how many nodes a graph may have.
const most = api.MaxNodes

// fromTo are the numbers from one to another one.
func fromTo(from, to int) []int {
	var l []int
	for i := from; i <= to; i++ {
		l = append(l, i)
	}
	return l
}

// chain is edges from each node to the next.
func chain(n int) [][]int {
	next := make([][]int, n)
	for i := range n - 1 {
		next[i] = row(i + 1)
	}
	return next
}

// holdOvers says whether a node's Over and Depth are what functions say.
func holdOvers(t *testing.T, d *Tree, n int, over, depth func(i int) int) {
	t.Helper()
	for i := range n {
		if d.Over(i) != over(i) || d.Depth(i) != depth(i) {
			t.Fatalf("Over(%d): %d, Depth %d; not %d, %d", i, d.Over(i), d.Depth(i), over(i), depth(i))
		}
	}
	for _, i := range noNodes(n) {
		holdNothing(t, d, i, 0, 1, n-1)
	}
}

// ahead is the number ahead of one, itself that.
func ahead(i int) int { return i - 1 }

func itself(i int) int { return i }

// flat is where all are right under the node 0.
func flat(i int) int { return min(0, i-1) }

func one(i int) int { return min(1, i) }

// P15.2 to P15.4: a chain of as many nodes as there may be.
func TestLongChain(t *testing.T) {
	d := treeOf(t, chain(most))
	holdOvers(t, d, most, ahead, itself)
	down := fromTo(0, most-1)
	slices.Reverse(down)
	if !slices.Equal(upFrom(d, most-1), down) {
		t.Error("Up of the last one")
	}
	for _, c := range [][2]int{{0, most - 1}, {most - 1, 0}, {17, 17}, {2000, 3000}, {3000, 2000}, {most - 1, most - 1}} {
		if node, is := d.Near(c[0], c[1]); node != min(c[0], c[1]) || !is {
			t.Errorf("Near(%d, %d): %d, %v", c[0], c[1], node, is)
		}
		if d.Dominates(c[0], c[1]) != (c[0] <= c[1]) {
			t.Errorf("Dominates(%d, %d)", c[0], c[1])
		}
	}
	if !slices.Equal(d.Under(most-2), row(most-1)) || len(d.Under(most-1)) != 0 || len(d.Backs()) != 0 || len(d.Frontier(1)) != 0 {
		t.Error("Under, Backs or Frontier")
	}
}

// P15.2 to P15.4: the same, with an edge from each node to the one ahead of it.
func TestLongChainBack(t *testing.T) {
	next := chain(most)
	var backs [][2]int
	for i := 1; i < most; i++ {
		next[i] = append(next[i], i-1)
		backs = append(backs, [2]int{i, i - 1})
	}
	d := treeOf(t, next)
	holdOvers(t, d, most, ahead, itself)
	if !slices.Equal(d.Backs(), backs) {
		t.Error("Backs")
	}
	for _, c := range []struct{ i, from, to int }{{0, 0, 0}, {1, 0, 1}, {2000, 1999, 2000}, {most - 2, most - 3, most - 2}, {most - 1, most - 2, most - 2}} {
		if l := d.Frontier(c.i); !slices.Equal(l, fromTo(c.from, c.to)) {
			t.Errorf("Frontier(%d): %v", c.i, l)
		}
	}
}

// P15.2 to P15.4: with an entry at its other end no node of such a chain dominates another, though that shows only node by node.
func TestLongRing(t *testing.T) {
	for _, order := range [][]int{row(1, most-1), row(most-1, 1), row(most-1, 1, most/2)} {
		next := chain(most)
		for i := 2; i < most; i++ {
			next[i] = append(next[i], i-1)
		}
		next[0] = order
		d := treeOf(t, next)
		holdOvers(t, d, most, flat, one)
		if len(d.Backs()) != 0 || !slices.Equal(d.Under(0), fromTo(1, most-1)) {
			t.Error("Backs or Under")
		}
		if !slices.Equal(d.Frontier(1), row(2)) || !slices.Equal(d.Frontier(2000), row(1999, 2001)) || !slices.Equal(d.Frontier(most-1), row(most-2)) {
			t.Error("Frontier")
		}
	}
}

// P15.2 to P15.4: a chain of which each node leads to the last one, and one of which the last one leads to each.
func TestManyWays(t *testing.T) {
	next := chain(most)
	for i := range most - 2 {
		next[i] = append(next[i], most-1)
	}
	d := treeOf(t, next)
	if d.Over(most-1) != 0 || d.Depth(most-2) != most-2 || !slices.Equal(d.Under(0), row(1, most-1)) {
		t.Errorf("Over %d, Depth %d, Under %v", d.Over(most-1), d.Depth(most-2), d.Under(0))
	}
	if !slices.Equal(d.Frontier(1), row(most-1)) || len(d.Frontier(0)) != 0 || len(d.Backs()) != 0 {
		t.Error("Frontier or Backs")
	}
	next = chain(most)
	next[most-1] = fromTo(0, most-1)
	d = treeOf(t, next)
	holdOvers(t, d, most, ahead, itself)
	backs := d.Backs()
	if len(backs) != most || backs[0] != [2]int{most - 1, 0} || backs[most-1] != [2]int{most - 1, most - 1} {
		t.Error("Backs")
	}
	if !slices.Equal(d.Frontier(2000), fromTo(0, 2000)) {
		t.Error("Frontier")
	}
}

// P15.2 to P15.4: each node with edges to all; only to all behind it; to all ahead of it and the next one.
func TestAllEdges(t *testing.T) {
	all := fromTo(0, most-1)
	full, up, back := make([][]int, most), make([][]int, most), make([][]int, most)
	for i := range most {
		full[i], up[i], back[i] = all, all[i+1:], all[:min(i+2, most)]
	}
	d := treeOf(t, full)
	holdOvers(t, d, most, flat, one)
	if l := d.Backs(); len(l) != 2*most-1 || l[0] != [2]int{} || l[2*most-2] != [2]int{most - 1, most - 1} {
		t.Error("all: Backs")
	}
	if !slices.Equal(d.Frontier(0), row(0)) || !slices.Equal(d.Frontier(1), all) || !slices.Equal(d.Frontier(most-1), all) {
		t.Error("all: Frontier")
	}
	d = treeOf(t, up)
	holdOvers(t, d, most, flat, one)
	if len(d.Backs()) != 0 || len(d.Frontier(0)) != 0 || !slices.Equal(d.Frontier(2000), all[2001:]) {
		t.Error("behind: Backs or Frontier")
	}
	d = treeOf(t, back)
	holdOvers(t, d, most, ahead, itself)
	if !slices.Equal(d.Frontier(2000), all[:2001]) || !slices.Equal(d.Frontier(0), row(0)) {
		t.Error("ahead: Frontier")
	}
}

// P15.2, P15.3: two chains, each node of which leads to each of many others: these are under the node 0; one chain and its end are above what hangs on that.
func TestTwoChains(t *testing.T) {
	k := most / 4
	next := chain(most)
	next[0] = row(1, k+1)
	many := fromTo(2*k+1, most-1)
	for i := 1; i < most; i++ {
		if i > 2*k || i == k || i == 2*k {
			next[i] = nil
		}
		if i <= 2*k {
			next[i] = append(next[i], many...)
		}
	}
	d := treeOf(t, next)
	for i := 1; i < most; i++ {
		over := i - 1
		if i == k+1 || i > 2*k {
			over = 0
		}
		if d.Over(i) != over {
			t.Fatalf("Over(%d): %d; not %d", i, d.Over(i), over)
		}
	}
	if node, is := d.Near(k, 2*k); node != 0 || !is {
		t.Errorf("Near: %d, %v", node, is)
	}
	if node, is := d.Near(k, k-5); node != k-5 || !is {
		t.Errorf("Near: %d, %v", node, is)
	}
	if !slices.Equal(d.Frontier(1), many) {
		t.Error("Frontier")
	}
}

// P15.2: a graph of as many nodes as there may be, of which none but the first one, or but that and the last one, is reached.
func TestFewReached(t *testing.T) {
	next := make([][]int, most)
	for i := range next {
		next[i] = row(0, most/2, i)
	}
	next[0], next[most/2] = nil, nil
	d := treeOf(t, next)
	for i := 1; i < most; i++ {
		holdNothing(t, d, i, 0)
	}
	if d.Over(0) != -1 || d.Depth(0) != 0 || !d.Dominates(0, 0) || len(d.Backs()) != 0 || len(d.Under(0)) != 0 {
		t.Error("the node 0")
	}
	next[0] = row(most - 1)
	next[most-1] = nil
	d = treeOf(t, next)
	if d.Over(most-1) != 0 || !slices.Equal(upFrom(d, most-1), row(most-1, 0)) || !slices.Equal(d.Under(0), row(most-1)) {
		t.Error("the last node")
	}
	holdNothing(t, d, most-2, 0, most-1)
	holdNothing(t, d, most, 0, most-1)
}
