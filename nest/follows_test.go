package nest

import (
	"slices"
	"testing"

	"intaglio/api"
	"intaglio/graph"
)

// constructsIn are the constructs of all heads that stand, by the heads.
func constructsIn(t *testing.T, g *graph.Graph, l []api.Merge) map[int][]int {
	t.Helper()
	all := map[int][]int{}
	for head := range l {
		switch nodes, e := Construct(g, l, head); e {
		case api.OK:
			all[head] = nodes
		case api.ErrNone:
		default:
			t.Fatalf("Construct(%d): %d", head, e)
		}
	}
	return all
}

// holdWithin says whether of two constructs one has the other, or they have no node in common; it answers how often each is so.
func holdWithin(t *testing.T, p plan, all map[int][]int) (within, apart int) {
	t.Helper()
	for a, some := range all {
		for b, others := range all {
			if a >= b {
				continue
			}
			common := 0
			for _, i := range some {
				if slices.Contains(others, i) {
					common++
				}
			}
			switch {
			case common == 0:
				apart++
			case common == min(len(some), len(others)):
				within++
			default:
				t.Fatalf("the constructs of %d, %v, and of %d, %v, in %v", a, some, b, others, p)
			}
		}
	}
	return within, apart
}

// holdFewest says whether Inner of each node is the head of the construct around it with the fewest nodes; it answers of how many nodes there is one.
func holdFewest(t *testing.T, g *graph.Graph, p plan, all map[int][]int) int {
	t.Helper()
	count := 0
	for i := range p.next {
		head, e := Inner(g, p.merges, i)
		if e != api.OK {
			t.Fatalf("Inner(%d): %d", i, e)
		}
		if head >= 0 && !slices.Contains(all[head], i) {
			t.Fatalf("Inner(%d): %d, whose construct is %v", i, head, all[head])
		}
		for other, nodes := range all {
			if other != head && slices.Contains(nodes, i) && (head < 0 || len(nodes) <= len(all[head])) {
				t.Fatalf("Inner(%d): %d; the construct of %d, %v, in %v", i, head, other, nodes, p)
			}
		}
		if head >= 0 {
			count++
		}
	}
	return count
}

// P16.4: each sentence, of graphs and merges made by chance, well nested or not.
func TestWithin(t *testing.T) {
	d := dice(1606)
	within, apart, inner := 0, 0, 0
	for n := range 4000 {
		p := d.plan(16)
		if n%2 == 0 {
			p = d.anyPlan(1 + d.below(30))
		}
		g := graphOf(t, p.next)
		all := constructsIn(t, g, p.merges)
		w, a := holdWithin(t, p, all)
		within, apart = within+w, apart+a
		inner += holdFewest(t, g, p, all)
	}
	if within < 5000 || apart < 5000 || inner < 10000 {
		t.Errorf("%d within one another, %d apart, %d nodes in some", within, apart, inner)
	}
}

// holdSomeOrder says whether there is an order of all nodes that stand in which each edge that is none back leads to one behind.
func holdSomeOrder(t *testing.T, p plan, s saying) {
	t.Helper()
	left := map[int]int{} // how many such edges lead to each node from what is not in the order yet
	var free []int
	for i := range p.next {
		if s.stands(i) {
			left[i] = 0
		}
	}
	for i := range left {
		for _, to := range s.next[i] {
			if !s.back(i, to) {
				left[to]++
			}
		}
	}
	for i, count := range left {
		if count == 0 {
			free = append(free, i)
		}
	}
	ordered := 0
	for ; ordered < len(free); ordered++ {
		i := free[ordered]
		for _, to := range s.next[i] {
			if !s.back(i, to) {
				if left[to]--; left[to] == 0 {
					free = append(free, to)
				}
			}
		}
	}
	if ordered != len(left) {
		t.Fatalf("there is no order of %v", p)
	}
}

// P16.5: of graphs that Check calls well nested: there is such an order, and edges lead into constructs by their heads alone.
func TestWellNested(t *testing.T) {
	d := dice(1607)
	grown, spoiled, into, back := 0, 0, 0, 0
	for n := range 12000 {
		p := d.grown(10, true)
		if n%3 > 0 {
			p = d.mixed(d.spoiled(p))
		}
		g := graphOf(t, p.next)
		if Check(g, p.merges).Err != api.OK {
			continue
		}
		if n%3 > 0 {
			spoiled++
		} else {
			grown++
		}
		s := say(p)
		holdSomeOrder(t, p, s)
		for head, nodes := range constructsIn(t, g, p.merges) {
			for i, l := range s.next {
				for _, to := range l {
					if !s.stands(i) || slices.Contains(nodes, i) || !slices.Contains(nodes, to) {
						continue
					}
					if into++; to != head {
						t.Fatalf("%d leads to %d, into the construct of %d, in %v", i, to, head, p)
					}
				}
			}
		}
		for i, l := range s.next {
			for _, to := range l {
				if s.back(i, to) {
					back++
				}
			}
		}
	}
	if grown < 3000 || spoiled < 1000 || into < 5000 || back < 1000 {
		t.Errorf("%d grown, %d spoiled, %d edges into constructs, %d back", grown, spoiled, into, back)
	}
}

// P16.5: with other edges and another merge of what does not stand the answers are the same.
func TestWhatDoesNotStand(t *testing.T) {
	d := dice(1608)
	changed, wrong := 0, 0
	for range 6000 {
		p := d.plan(14)
		want := asked(t, graphOf(t, p.next), p.merges)
		s := say(p)
		other := p.clone()
		n := len(p.next)
		for i := range n {
			if s.stands(i) {
				continue
			}
			changed++
			other.next[i] = nil
			for range d.below(4) {
				other.next[i] = append(other.next[i], d.below(n))
			}
			other.merges[i] = d.anyMerge(n)
		}
		if got := asked(t, graphOf(t, other.next), other.merges); !got.equal(want) {
			t.Fatalf("of %v: %v; of %v: %v", p, want, other, got)
		}
		if len(want.flaws) > 0 {
			wrong++
		}
	}
	if changed < 3000 || wrong < 1000 {
		t.Errorf("%d nodes changed, %d not well nested", changed, wrong)
	}
}

// P16.1, P16.4: what a node is called, how often its edges stand, and in which order, does not matter.
func TestOtherNumbers(t *testing.T) {
	d := dice(1609)
	for range 2000 {
		p := d.plan(14)
		other := p.clone()
		for i, l := range other.next {
			other.next[i] = slices.Concat(l, l)
			slices.Reverse(other.next[i])
		}
		want := asked(t, graphOf(t, p.next), p.merges)
		if got := asked(t, graphOf(t, other.next), other.merges); !got.equal(want) {
			t.Fatalf("of %v: %v; of %v: %v", p, want, other, got)
		}
		l, _ := Flaws(graphOf(t, p.next), p.merges)
		q := d.mixed(p)
		m, _ := Flaws(graphOf(t, q.next), q.merges)
		if len(l) != len(m) {
			t.Fatalf("%d flaws of %v; %d of %v", len(l), p, len(m), q)
		}
	}
}
