package graph

import (
	"slices"
	"testing"

	"intaglio/api"
	"intaglio/ids"
)

// holdTold says whether Walk and Order tell just the nodes that are reached, each once, the node 0 first.
func holdTold(t *testing.T, g *Graph) {
	t.Helper()
	var reached []int
	for i := range g.Len() {
		if g.Reached(i) {
			reached = append(reached, i)
		}
	}
	for name, l := range map[string][]int{"Walk": walked(g), "Order": g.Order()} {
		if len(l) == 0 || l[0] != 0 {
			t.Fatalf("%s does not begin with the node 0: %v", name, l)
		}
		if slices.Sort(l); !slices.Equal(l, reached) {
			t.Fatalf("%s does not tell just what is reached: %v; not %v", name, l, reached)
		}
	}
}

// holdBothWays says whether a node is among Ahead of another one just if that is among its Next.
func holdBothWays(t *testing.T, g *Graph) {
	t.Helper()
	for i := range g.Len() {
		next := g.Next(i)
		for k := range g.Len() {
			if slices.Contains(g.Ahead(k), i) != slices.Contains(next, k) {
				t.Fatalf("Next of %d: %v; Ahead of %d: %v", i, next, k, g.Ahead(k))
			}
		}
	}
}

// P14.6: the first and the third sentence, of graphs made by chance.
func TestTold(t *testing.T) {
	for _, next := range graphs() {
		g := graphOf(t, next)
		holdTold(t, g)
		holdBothWays(t, g)
	}
	d := dice(146)
	for range 400 {
		g := graphOf(t, d.edges(1+d.below(80)))
		holdTold(t, g)
		holdBothWays(t, g)
	}
}

// P14.6: where all edges lead upwards each node stands in Order ahead of its Next.
func TestOrderUpwards(t *testing.T) {
	d := dice(147)
	pairs := 0
	for range 1000 {
		g := graphOf(t, d.upwards(1+d.below(60)))
		order := g.Order()
		for at, i := range order {
			for _, to := range g.Next(i) {
				pairs++
				if slices.Index(order, to) <= at {
					t.Fatalf("%d stands ahead of %d in %v", to, i, order)
				}
			}
		}
		holdTold(t, g)
	}
	if pairs < 5000 {
		t.Errorf("%d edges", pairs)
	}
}

// P14.6: Walk comes to each node but the first from one to which it came already.
func TestWalkGoesByEdges(t *testing.T) {
	d := dice(148)
	for range 400 {
		g := graphOf(t, d.edges(1+d.below(60)))
		came := walked(g)
		for at, i := range came[1:] {
			if !slices.ContainsFunc(g.Ahead(i), func(from int) bool { return slices.Contains(came[:at+1], from) }) {
				t.Fatalf("nothing leads to %d in %v", i, came)
			}
		}
	}
}

// P14.7: the first block is no block's Next, and no merge's To or Continue; what leads elsewhere is a block.
func TestFirstBlock(t *testing.T) {
	d := dice(149)
	right := 0
	for n := range 1500 {
		m := d.module(n%3 == 0)
		for _, f := range functions(t, m) {
			g, l, s := New(m, f)
			if s.Err != api.OK {
				continue
			}
			right++
			if len(g.Ahead(0)) != 0 || g.Len() != len(f.Blocks) || len(l) != g.Len() {
				t.Fatalf("Ahead of the first block: %v, of %v", g.Ahead(0), m)
			}
			for _, merge := range l {
				named := merge.Kind != api.MergeNone
				looped := merge.Kind == api.MergeLoop
				if named != (merge.To > 0) || looped != (merge.Continue > 0) || merge.To >= g.Len() || merge.Continue >= g.Len() {
					t.Fatalf("a merge: %v", merge)
				}
			}
		}
	}
	if right < 1000 {
		t.Errorf("%d functions", right)
	}
}

// P14.7: of a module with its ids changed the graph and the merges are the same; so is what is wrong.
func TestRenamed(t *testing.T) {
	d := dice(150)
	count := map[api.Errno]int{}
	for n := range 1500 {
		m := d.module(n%2 == 0)
		other, s := ids.Rename(m, d.renaming(m.Bound))
		if s.Err != api.OK {
			t.Fatal(s)
		}
		funcs := functions(t, other)
		for k, f := range functions(t, m) {
			g, l, s := New(m, f)
			h, merges, spot := New(other, funcs[k])
			count[s.Err]++
			if s != spot || !slices.Equal(l, merges) || (g == nil) != (h == nil) {
				t.Fatalf("New: %v, %v; %v, %v", l, s, merges, spot)
			}
			if g != nil && !asked(g).equal(asked(h)) {
				t.Fatalf("%v; %v", asked(g), asked(h))
			}
		}
	}
	if count[api.OK] < 500 || count[api.ErrTarget] < 500 {
		t.Errorf("%v", count)
	}
}

// P14.7: what does not lead anywhere says nothing of the graph: with more instructions in its blocks, and behind other functions, it is the same.
func TestPlacesDoNotMatter(t *testing.T) {
	lines := []string{label(10), "OpSelectionMerge %12 None", "OpSwitch %6 %11 1 %12", label(11), "OpBranch %12", label(12), "OpReturn"}
	more := slices.Insert(slices.Clone(lines), 1, "%20 = OpIAdd %4 %6 %6", "%21 = OpIAdd %4 %20 %6")
	for _, l := range [][]string{lines, more} {
		holdNew(t, edges(row(1, 2), row(2), row()), merges(choice(2), none(), none()), l...)
		m := body(slices.Concat([]string{label(50), "OpReturn"}, another, l)...)
		holdFunction(t, m, functions(t, m)[1], edges(row(1, 2), row(2), row()), merges(choice(2), none(), none()))
	}
}
