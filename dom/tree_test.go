package dom

import (
	"slices"
	"testing"

	"intaglio/api"
	"intaglio/asm"
	"intaglio/graph"
	"intaglio/layout"
)

// The chapter's examples.
func TestExamples(t *testing.T) {
	d := treeOf(t, example())
	for _, c := range []struct{ i, over int }{{0, -1}, {1, 0}, {3, 0}, {4, 3}, {5, -1}, {9, -1}} {
		if d.Over(c.i) != c.over {
			t.Errorf("Over(%d): %d; not %d", c.i, d.Over(c.i), c.over)
		}
	}
	for _, c := range []struct {
		a, b int
		is   bool
	}{{0, 4, true}, {3, 4, true}, {1, 3, false}, {4, 4, true}, {5, 5, false}, {5, 4, false}} {
		if d.Dominates(c.a, c.b) != c.is {
			t.Errorf("Dominates(%d, %d) is not %v", c.a, c.b, c.is)
		}
	}
	for _, c := range []struct{ i, depth int }{{4, 2}, {0, 0}, {5, -1}} {
		if d.Depth(c.i) != c.depth {
			t.Errorf("Depth(%d): %d; not %d", c.i, d.Depth(c.i), c.depth)
		}
	}
	for _, c := range []struct {
		a, b, node int
		is         bool
	}{{1, 4, 0, true}, {1, 2, 0, true}, {4, 4, 4, true}, {1, 5, 0, false}} {
		if node, is := d.Near(c.a, c.b); node != c.node || is != c.is {
			t.Errorf("Near(%d, %d): %d, %v", c.a, c.b, node, is)
		}
	}
	for _, c := range []struct {
		name      string
		got, want []int
	}{
		{"Under(0)", d.Under(0), row(1, 2, 3)}, {"Under(3)", d.Under(3), row(4)}, {"Up(4)", upFrom(d, 4), row(4, 3, 0)},
		{"Frontier(1)", d.Frontier(1), row(3)}, {"Frontier(3)", d.Frontier(3), row(1)}, {"Frontier(4)", d.Frontier(4), row()},
	} {
		if !slices.Equal(c.got, c.want) {
			t.Errorf("%s: %v; not %v", c.name, c.got, c.want)
		}
	}
	if l := d.Backs(); len(l) != 0 {
		t.Errorf("Backs: %v", l)
	}
	if l := treeOf(t, edges(row(1), row(0, 1))).Backs(); !slices.Equal(l, pairs([2]int{1, 0}, [2]int{1, 1})) {
		t.Errorf("Backs: %v", l)
	}
	holdTree(t, d, example())
}

// P15.1: of no graph there is no tree; of each other there is one.
func TestNew(t *testing.T) {
	if d, e := New(nil); d != nil || e != api.ErrNil {
		t.Errorf("New of nil: %v, %d", d, e)
	}
	var none *graph.Graph
	if d, e := New(none); d != nil || e != api.ErrNil {
		t.Errorf("New of a nil graph: %v, %d", d, e)
	}
	for _, next := range graphs() {
		if d, e := New(graphOf(t, next)); d == nil || e != api.OK {
			t.Errorf("New of %v: %v, %d", next, d, e)
		}
	}
}

// graphs are graphs of many kinds.
func graphs() [][][]int {
	return [][][]int{
		// One node, with and without an edge to itself.
		edges(row()),
		edges(row(0)),
		edges(row(0, 0)),
		// Two, of which one is reached, or both.
		edges(row(), row()),
		edges(row(), row(0)),
		edges(row(), row(1, 0)),
		edges(row(1), row()),
		edges(row(1), row(0)),
		edges(row(1, 0), row(1, 0)),
		edges(row(1, 1, 1), row(0, 1, 0, 1)),
		// A row, its way back, a ring, both ways at once.
		edges(row(1), row(2), row(3), row()),
		edges(row(), row(0), row(1), row(2)),
		edges(row(1), row(2), row(3), row(0)),
		edges(row(3), row(0), row(1), row(2)),
		edges(row(1), row(0, 2), row(1, 3), row(2)),
		// Two ways to one node, and a third one past it; a short cut.
		edges(row(1, 2), row(3), row(3), row()),
		edges(row(2, 1), row(3), row(3), row()),
		edges(row(1, 2), row(3, 4), row(3), row(4), row()),
		edges(row(1, 2), row(2), row()),
		edges(row(2, 1), row(2), row()),
		// A choice within a choice.
		edges(row(1, 6), row(2, 3), row(4), row(4), row(5), row(), row(5)),
		// A loop; a loop within a loop; loops with one head; a loop of one node.
		edges(row(1), row(2, 3), row(1), row()),
		edges(row(1), row(2, 5), row(3, 4), row(2), row(1), row()),
		edges(row(1), row(2, 3), row(1, 3), row(1, 4), row()),
		edges(row(1), row(1, 2), row()),
		// Rings with two entries: of two nodes, of four, both ways, within one another.
		edges(row(1, 2), row(2), row(1, 3), row()),
		edges(row(1, 3), row(2), row(3), row(4), row(1)),
		edges(row(1, 4), row(2), row(1, 3), row(2, 4), row(3)),
		edges(row(1, 5), row(2, 4), row(3), row(2, 4), row(3, 5), row(1)),
		// A graph that is looked at more than twice, whatever the order.
		edges(row(5, 4), row(2), row(1, 3), row(2), row(2, 3), row(1)),
		edges(row(4, 3, 5), row(2), row(1, 3), row(2, 4), row(3), row(1)),
		// What is not reached: with edges to what is, among themselves, to the node 0, in a ring.
		edges(row(1), row(), row(1, 0), row(2)),
		edges(row(1), row(2), row(1, 0), row(2, 1, 3)),
		edges(row(2), row(2, 3), row(), row(1)),
		edges(row(0), row(2), row(3), row(1), row(0, 1, 2, 3, 4)),
		edges(row(1, 2), row(3), row(3), row(), row(3, 1), row(4, 2)),
		// The numbers the other way round.
		edges(row(4), row(), row(1), row(2), row(3)),
		edges(row(4, 3, 2, 1), row(), row(), row(), row(3, 2)),
		example(),
	}
}

// P15.2 to P15.4: graphs of many kinds.
func TestGraphs(t *testing.T) {
	for _, next := range graphs() {
		holdNext(t, next)
	}
}

// P15.2 to P15.4: all graphs of up to four nodes; those of four are held against the words by ways, one by one.
func TestSmallGraphs(t *testing.T) {
	for n := 1; n <= 4; n++ {
		for code := range 1 << (n * n) {
			next := make([][]int, n)
			for k := range n * n {
				if code>>k&1 == 1 {
					next[k/n] = append(next[k/n], k%n)
				}
			}
			if got, want := saidDominates(next), saidWays(next); !rowsEqual(got, want) {
				t.Fatalf("two sayings of %v: %v; %v", next, got, want)
			}
			if got, want := asked(treeOf(t, next), n), saidAnswers(next); !got.equal(want) {
				t.Fatalf("of %v: %v; not %v", next, got, want)
			}
		}
	}
}

// P15.2 to P15.4: graphs made by chance, with enough of all that may be in one.
func TestGraphsByChance(t *testing.T) {
	d := dice(1501)
	unreached, leading, selves, deep, wide, fronts, backs := 0, 0, 0, 0, 0, 0, 0
	for range 3000 {
		next := d.edges(30)
		tree := treeOf(t, next)
		holdTree(t, tree, next)
		backs += len(tree.Backs())
		for i, l := range next {
			if tree.Depth(i) < 0 {
				unreached++
				if slices.ContainsFunc(l, func(to int) bool { return tree.Depth(to) >= 0 }) {
					leading++
				}
			}
			if tree.Dominates(i, i) && slices.Contains(l, i) {
				selves++
			}
			deep = max(deep, tree.Depth(i))
			wide = max(wide, len(tree.Under(i)))
			fronts = max(fronts, len(tree.Frontier(i)))
		}
	}
	if unreached < 1000 || leading < 500 || selves < 500 || deep < 15 || wide < 15 || fronts < 10 || backs < 1000 {
		t.Errorf("%d not reached, %d leading in, %d to themselves, %d deep, %d wide, %d in a frontier, %d back", unreached, leading, selves, deep, wide, fronts, backs)
	}
}

// P15.2 to P15.4: graphs made by chance, of more nodes than a word has bits.
func TestLargerByChance(t *testing.T) {
	d := dice(1502)
	for _, n := range []int{63, 64, 65, 127, 128, 129, 150} {
		for _, next := range [][][]int{d.anyEdges(n), d.fewEdges(n), d.mixed(d.fewEdges(n)), d.upwards(n), d.ring(n), d.mixed(d.ring(n))} {
			holdNext(t, next)
		}
	}
}

// P15.2, P15.3: nodes that are not reached, in each call, beside such that are; an edge from one of them is no way.
func TestNotReached(t *testing.T) {
	next := edges(row(1, 2), row(3), row(3), row(), row(3, 4), row(4, 0, 1), row(6))
	d := treeOf(t, next)
	for _, i := range row(4, 5, 6) {
		holdNothing(t, d, i, 0, 1, 2, 3, 4, 5, 6, 7, -1)
	}
	if d.Over(3) != 0 || d.Over(1) != 0 || len(d.Backs()) != 0 || !slices.Equal(d.Under(0), row(1, 2, 3)) {
		t.Errorf("Over %d, %d; Backs %v; Under %v", d.Over(3), d.Over(1), d.Backs(), d.Under(0))
	}
	// Without the second way the first one dominates, though what is not reached leads past it.
	d = treeOf(t, edges(row(1), row(2), row(), row(2, 0)))
	if d.Over(2) != 1 || !d.Dominates(1, 2) || len(d.Frontier(1)) != 0 || len(d.Frontier(0)) != 0 {
		t.Errorf("Over(2): %d, Frontier(1): %v, Frontier(0): %v", d.Over(2), d.Frontier(1), d.Frontier(0))
	}
}

// P15.2: -1 stands for no node, and is none: nothing is under it, though Over answers it.
func TestUnderNone(t *testing.T) {
	for _, next := range graphs() {
		if l := treeOf(t, next).Under(-1); len(l) != 0 {
			t.Errorf("Under(-1) of %v: %v", next, l)
		}
	}
}

// P15.4: the node itself may be in its frontier, the node 0 in that of each, and what is dominated strictly in none.
func TestFrontier(t *testing.T) {
	for _, c := range []struct {
		next [][]int
		want [][]int
	}{
		{edges(row()), edges(row())},
		{edges(row(0)), edges(row(0))},
		{edges(row(1), row(0)), edges(row(0), row(0))},
		{edges(row(1), row(1)), edges(row(), row(1))},
		{edges(row(1), row(2), row(1, 0)), edges(row(0), row(0, 1), row(0, 1))},
		{edges(row(1, 3), row(2), row(3), row()), edges(row(), row(3), row(3), row())},
		{edges(row(1, 2), row(2), row(1)), edges(row(), row(2), row(1))},
	} {
		d := treeOf(t, c.next)
		for i, want := range c.want {
			if l := d.Frontier(i); !slices.Equal(l, want) {
				t.Errorf("Frontier(%d) of %v: %v; not %v", i, c.next, l, want)
			}
		}
	}
}

// P15.4: edges back stand once, in order, whatever the order of the edges; what only looks back is none.
func TestBacks(t *testing.T) {
	for _, c := range []struct {
		next [][]int
		want [][2]int
	}{
		{edges(row()), nil},
		{edges(row(0, 0)), pairs([2]int{0, 0})},
		{edges(row(1), row(1, 0, 1, 0)), pairs([2]int{1, 0}, [2]int{1, 1})},
		{edges(row(2, 0), row(1, 2, 0), row(1, 0)), pairs([2]int{0, 0}, [2]int{1, 0}, [2]int{1, 1}, [2]int{1, 2}, [2]int{2, 0})},
		// A ring with two entries has none; with the node 0 in it it has that.
		{edges(row(1, 2), row(2), row(1)), nil},
		{edges(row(1, 2), row(2), row(1, 0)), pairs([2]int{2, 0})},
		// What is not reached has none, to itself neither.
		{edges(row(), row(1, 0)), nil},
	} {
		if l := treeOf(t, c.next).Backs(); !slices.Equal(l, c.want) {
			t.Errorf("Backs of %v: %v; not %v", c.next, l, c.want)
		}
	}
}

// P15.1, P15.2: the tree of a function's blocks.
func TestFunction(t *testing.T) {
	m, s := asm.Parse("module 0 20\nOpMemoryModel Logical Simple\n%1 = OpTypeVoid\n%2 = OpTypeFunction %1\n%3 = OpTypeBool\n%4 = OpConstantTrue %3\n" +
		"%5 = OpFunction %1 None %2\n%6 = OpLabel\nOpSelectionMerge %9 None\nOpBranchConditional %4 %7 %8\n%7 = OpLabel\nOpBranch %9\n%8 = OpLabel\nOpBranch %9\n%9 = OpLabel\nOpReturn\nOpFunctionEnd\n")
	if s.Err != api.OK {
		t.Fatal(s)
	}
	l, _ := layout.Cut(m)
	g, _, s := graph.New(m, l[0])
	if s.Err != api.OK {
		t.Fatal(s)
	}
	d, e := New(g)
	if e != api.OK {
		t.Fatal(e)
	}
	holdTree(t, d, edges(row(1, 2), row(3), row(3), row()))
}
