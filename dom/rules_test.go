package dom

import (
	"slices"
	"sync"
	"testing"

	"intaglio/api"
	"intaglio/graph"
)

// anyNode is a number, often one at an edge.
func (d *dice) anyNode(n int) int {
	if d.below(2) == 0 {
		return d.below(n+2) - 1
	}
	l := noNodes(n)
	return l[d.below(len(l))]
}

// R1, R2: every call ends, and none panics, whatever the graph and the nodes asked for; of what is no node, or is not reached, there is nothing.
func TestWhateverNodes(t *testing.T) {
	d := dice(1507)
	nothing, something := 0, 0
	for range 2000 {
		next := d.edges(20)
		tree := treeOf(t, next)
		reached := saidWithout(next, -1)
		there := func(i int) bool { return 0 <= i && i < len(next) && reached[i] }
		for range 10 {
			a, b := d.anyNode(len(next)), d.anyNode(len(next))
			if !there(a) {
				holdNothing(t, tree, a, b)
				nothing++
				continue
			}
			something++
			if tree.Depth(a) < 0 || len(upFrom(tree, a)) != tree.Depth(a)+1 {
				t.Fatalf("Depth(%d): %d, Up %v", a, tree.Depth(a), upFrom(tree, a))
			}
			if _, is := tree.Near(a, b); is != there(b) {
				t.Fatalf("Near(%d, %d): %v", a, b, is)
			}
			if tree.Dominates(0, b) != there(b) {
				t.Fatalf("Dominates(0, %d): %v", b, tree.Dominates(0, b))
			}
		}
	}
	if nothing < 2000 || something < 2000 {
		t.Errorf("%d, %d", nothing, something)
	}
}

// R1: the least and the greatest numbers, in each call and at each place.
func TestNoNode(t *testing.T) {
	for _, n := range []int{1, 2, 63, 64, 65, api.MaxNodes - 1, api.MaxNodes} {
		next := make([][]int, n)
		next[0], next[n-1] = row(n-1, 0), row(n-1, 0)
		d := treeOf(t, next)
		for _, i := range noNodes(n) {
			holdNothing(t, d, i, append(noNodes(n), 0, n-1)...)
		}
		if !d.Dominates(0, n-1) || !slices.Contains(upFrom(d, n-1), 0) || d.Depth(n-1) != min(1, n-1) {
			t.Errorf("the last one of %d", n)
		}
	}
}

// R4: of no tree there is nothing, in each call.
func TestNil(t *testing.T) {
	var d *Tree
	for _, i := range append(noNodes(1), 0, 1, 2) {
		holdNothing(t, d, i, 0, 1, -1)
	}
	if l := d.Backs(); len(l) != 0 {
		t.Errorf("Backs: %v", l)
	}
	up := d.Up(0)
	for range 2 {
		for i := range up {
			t.Errorf("Up tells %d", i)
		}
	}
}

// R2, R4: beside ErrNil there is no tree, and what is asked of what was answered is nothing.
func TestNilGraph(t *testing.T) {
	d, e := New(nil)
	if e != api.ErrNil || d != nil || d.Over(0) != -1 || len(d.Backs()) != 0 {
		t.Errorf("New: %v, %d", d, e)
	}
}

// overwrite writes over a list, and over the room behind its end.
func overwrite(l []int) {
	l = l[:cap(l)]
	for k := range l {
		l[k] = 99
	}
}

// R3: what a tree answers is new memory, the room behind its end too: what is done to it changes neither the tree nor other answers.
func TestAnswersMemory(t *testing.T) {
	d := dice(1508)
	all := graphs()
	for range 100 {
		all = append(all, d.edges(30))
	}
	for _, next := range all {
		tree := treeOf(t, next)
		first := asked(tree, len(next))
		for range 2 {
			for i := range next {
				overwrite(tree.Under(i))
				overwrite(tree.Frontier(i))
				overwrite(upFrom(tree, i))
			}
			backs := tree.Backs()
			backs = backs[:cap(backs)]
			for k := range backs {
				backs[k] = [2]int{99, 99}
			}
			holdTree(t, tree, next)
		}
		if !first.equal(saidAnswers(next)) {
			t.Fatalf("answers share memory: %v", first)
		}
	}
}

// R3, R5: a graph of which a tree is made answers as before; a tree made of it again, and one of a graph of the same edges, answers the same.
func TestGraphStays(t *testing.T) {
	d := dice(1509)
	for range 300 {
		next := d.edges(30)
		g := graphOf(t, next)
		before := slices.Concat(g.Order(), slices.Collect(g.Walk()))
		first, _ := New(g)
		second, _ := New(g)
		if after := slices.Concat(g.Order(), slices.Collect(g.Walk())); !slices.Equal(before, after) {
			t.Fatalf("the graph is another one: %v; %v", before, after)
		}
		holdTree(t, first, next)
		holdTree(t, second, next)
		holdNext(t, next)
	}
}

// R6: Up may be left at each place, and gone through again; one may be gone through within another.
func TestUpLeftEarly(t *testing.T) {
	d := dice(1510)
	all := append(graphs(), chain(20))
	for range 50 {
		all = append(all, d.fewEdges(20))
	}
	for _, next := range all {
		tree := treeOf(t, next)
		dominates := saidDominates(next)
		for i := range next {
			holdLeftEarly(t, tree.Up(i), saidUp(dominates, i))
		}
	}
}

// holdLeftEarly says whether what is told is that, each time, wherever it was left.
func holdLeftEarly(t *testing.T, up func(func(int) bool), want []int) {
	t.Helper()
	for n := range want {
		var l []int
		for k := range up {
			if l = append(l, k); len(l) == n+1 {
				break
			}
		}
		if !slices.Equal(l, want[:n+1]) {
			t.Fatalf("left behind %d: %v; not %v", n+1, l, want[:n+1])
		}
		if l := slices.Collect(up); !slices.Equal(l, want) {
			t.Fatalf("gone through again: %v; not %v", l, want)
		}
	}
	at := 0
	for k := range up {
		for within := range up {
			if within == k {
				break
			}
		}
		if k != want[at] {
			t.Fatalf("around another: %d; not %d", k, want[at])
		}
		at++
	}
}

// R5: several goroutines may ask a tree at one time, and make trees of one graph.
func TestManyAsk(t *testing.T) {
	d := dice(1511)
	next := d.fewEdges(70)
	g, _ := graph.Of(next)
	tree, _ := New(g)
	want := asked(tree, len(next))
	var done sync.WaitGroup
	for range 8 {
		done.Go(func() {
			for range 10 {
				if !asked(tree, len(next)).equal(want) {
					t.Error("other answers")
				}
				if other, e := New(g); e != api.OK || !asked(other, len(next)).equal(want) {
					t.Error("another tree")
				}
				for range tree.Up(69) {
					break
				}
			}
		})
	}
	done.Wait()
}
