package nest

import (
	"math"
	"slices"
	"sync"
	"testing"

	"intaglio/api"
	"intaglio/graph"
	"intaglio/ids"
)

// R4: of no graph ErrNil goes ahead, whatever else is handed in.
func TestNil(t *testing.T) {
	for _, l := range [][]api.Merge{nil, {}, nos(1), nos(3), merges(sel(0)), merges(sel(7), api.Merge{Kind: 9})} {
		holdRefused(t, nil, l, api.ErrNil)
	}
	var g *graph.Graph
	holdRefused(t, g, nos(2), api.ErrNil)
}

// P16.1, P16.2: ErrArg of merges that are too few, or too many.
func TestHowManyMerges(t *testing.T) {
	for _, n := range row(1, 2, 4, 64, 65, api.MaxNodes) {
		g := graphOf(t, chain(n).next)
		for _, count := range row(0, 1, n-1, n+1, 2*n, n+64) {
			if count != n {
				holdRefused(t, g, nos(count), api.ErrArg)
			}
		}
		holdRefused(t, g, nil, api.ErrArg)
		holdRefused(t, g, []api.Merge{}, api.ErrArg)
		// That there is one that would not fit, too, is no other fault.
		holdRefused(t, g, append(nos(n), sel(-1)), api.ErrArg)
		holdFlaws(t, chain(n).next, nos(n))
	}
}

// P16.1, P16.2: ErrArg of merges that do not fit: another kind, a To and a Continue that are no nodes; of each node, also of such that do not stand.
func TestMergesThatDoNotFit(t *testing.T) {
	g := graphOf(t, edges(row(1, 2), row(2), row(), row(2)))
	right := merges(sel(2), no, no, no)
	holdFlaws(t, edges(row(1, 2), row(2), row(), row(2)), right)
	var wrong []api.Merge
	for kind := 4; kind < 256; kind++ {
		wrong = append(wrong, api.Merge{Kind: uint8(kind), To: 2, Continue: 1})
	}
	for _, n := range noNodes(4) {
		wrong = append(wrong, sel(n), sw(n), loop(n, 1), loop(2, n), loop(n, n))
	}
	for _, m := range wrong {
		for i := range right {
			l := slices.Clone(right)
			l[i] = m
			if s := Check(g, l); s != spot(api.ErrArg, 0) {
				t.Fatalf("Check of %v: %v", l, s)
			}
		}
		holdRefused(t, g, merges(no, no, no, m), api.ErrArg)
	}
	// The greatest and the least that do fit.
	holdRefused(t, g, merges(no, no, no, loop(3, 4)), api.ErrArg)
	holdConstruct(t, g, merges(sel(2), no, loop(3, 2), no), 2, 2)
	holdConstruct(t, g, merges(loop(0, 3), no, no, no), 0)
}

// P16.2: of a node that is none, and a head that is none, the errors in their order.
func TestOrderOfErrors(t *testing.T) {
	g := graphOf(t, edges(row(1), row(), row()))
	wrong := merges(sel(1), no, sel(3))
	holdRefused(t, nil, wrong, api.ErrNil)
	holdRefused(t, g, wrong, api.ErrArg)
	l := merges(sel(1), no, sel(1))
	holdNoConstruct(t, g, l, api.ErrRange, -1, 3, math.MaxInt, math.MinInt)
	holdNoConstruct(t, g, l, api.ErrNone, 1, 2)
	holdConstruct(t, g, l, 0, 0)
	holdInner(t, g, l, 0, -1, -1)
}

// anyNumber is a number, often one at an edge.
func (d *dice) anyNumber(n int) int {
	if d.below(2) == 0 {
		return d.below(n+2) - 1
	}
	l := noNodes(n)
	return l[d.below(len(l))]
}

// R1, R2: every call ends, and none panics, whatever is handed in; beside an error all else is zero.
func TestWhatever(t *testing.T) {
	d := dice(1610)
	count := map[api.Errno]int{}
	for range 8000 {
		p := d.anyPlan(1 + d.below(9))
		n := len(p.next)
		g := graphOf(t, p.next)
		l := p.merges
		want := api.OK
		switch d.below(8) {
		case 0:
			g, want = nil, api.ErrNil
		case 1:
			l, want = l[:n-1], api.ErrArg
		case 2:
			l, want = append(l, no), api.ErrArg
		case 3:
			l[d.below(n)].Kind, want = uint8(4+d.below(252)), api.ErrArg
		case 4:
			l[d.below(n)], want = api.Merge{Kind: uint8(1 + d.below(3)), To: noNodes(n)[d.below(6)], Continue: 0}, api.ErrArg
		}
		count[want]++
		if want != api.OK {
			holdRefused(t, g, l, want)
			continue
		}
		for range 5 {
			i := d.anyNumber(n)
			nodes, e := Construct(g, l, i)
			head, also := Inner(g, l, i)
			if there := 0 <= i && i < n; there != (also == api.OK) || there == (e == api.ErrRange) {
				t.Fatalf("of %d of %d: %d, %d", i, n, e, also)
			}
			if e != api.OK && len(nodes) != 0 || also != api.OK && head != 0 {
				t.Fatalf("of %d: %v, %d; %d, %d", i, nodes, e, head, also)
			}
			count[e]++
		}
	}
	for _, e := range []api.Errno{api.OK, api.ErrNil, api.ErrArg, api.ErrRange, api.ErrNone} {
		if count[e] < 500 {
			t.Errorf("%d of the error %d", count[e], e)
		}
	}
}

// R1, R8: every call ends, and none panics, whatever the module; what ids.Check says goes ahead.
func TestWhateverModule(t *testing.T) {
	d := dice(1611)
	count := map[api.Errno]int{}
	for range 4000 {
		m := d.module(3)
		for range d.below(3) {
			at := d.below(len(m.Insts))
			switch d.below(5) {
			case 0:
				m.Insts[at] = api.Inst{Op: uint16(d.below(1 << 16)), Result: uint32(d.below(30))}
			case 1:
				m.Insts = slices.Insert(m.Insts, at, m.Insts[d.below(len(m.Insts))])
			case 2:
				m.Insts = slices.Delete(m.Insts, at, at+1)
			case 3:
				m.Insts[at].Op = uint16(245 + d.below(11))
			case 4:
				m.Bound = uint32(d.below(60))
			}
		}
		s, want := Module(m), saidModule(t, m)
		if s != want {
			t.Fatalf("Module: %v; not %v, of %v", s, want, m)
		}
		count[s.Err]++
		if below := ids.Check(m); below.Err != api.OK && s != below {
			t.Fatalf("Module: %v; ids.Check: %v", s, below)
		}
	}
	for _, e := range []api.Errno{api.OK, api.ErrOrder, api.ErrTarget, bare, back} {
		if count[e] < 50 {
			t.Errorf("%d of the error %d", count[e], e)
		}
	}
}

// R3: what is handed in is not changed, the room behind a list's end neither.
func TestHandedIn(t *testing.T) {
	d := dice(1612)
	for range 500 {
		p := d.plan(12)
		g := graphOf(t, p.next)
		order := slices.Concat(g.Order(), slices.Collect(g.Walk()))
		l := append(slices.Clone(p.merges), sel(77), loop(78, 79))[:len(p.merges)]
		want := asked(t, g, p.merges)
		if got := asked(t, g, l); !got.equal(want) {
			t.Fatalf("%v; not %v", got, want)
		}
		if !slices.Equal(l, p.merges) || !slices.Equal(l[:len(l)+2][len(l):], merges(sel(77), loop(78, 79))) {
			t.Fatalf("what was handed in is changed: %v", l[:len(l)+2])
		}
		if !slices.Equal(order, slices.Concat(g.Order(), slices.Collect(g.Walk()))) {
			t.Fatal("the graph is another one")
		}
		for i := range p.next {
			if !slices.Equal(g.Next(i), say(p).next[i]) {
				t.Fatalf("Next(%d): %v", i, g.Next(i))
			}
		}
	}
}

// R3: what is handed to Module is not changed, the room behind a list's end neither.
func TestModuleHandedIn(t *testing.T) {
	d := dice(1613)
	behind := []api.Arg{{Kind: api.ArgText, S: "behind"}, anId(77)}
	for n := range 300 {
		want := d.module(n % 5)
		m := apart(want)
		for at, i := range m.Insts {
			m.Insts[at].Args = append(i.Args, behind...)[:len(i.Args)]
		}
		m.Insts = append(m.Insts, api.Inst{Op: 77})[:len(want.Insts)]
		if s := Module(m); s != saidModule(t, want) {
			t.Fatalf("Module: %v", s)
		}
		if !same(m, want) || m.Insts[:len(m.Insts)+1][len(m.Insts)].Op != 77 {
			t.Fatal("what was handed in is changed")
		}
		for at, i := range m.Insts {
			if !slices.Equal(i.Args[:len(i.Args)+2][len(i.Args):], behind) {
				t.Fatalf("the room behind the arguments of %d is changed", at)
			}
		}
	}
}

// R3, R5: what is answered is new memory, the room behind its end too: what is done to it changes no other answer; nor does it what is done afterwards to what was handed in.
func TestAnswersMemory(t *testing.T) {
	d := dice(1614)
	for range 500 {
		p := d.plan(12)
		g := graphOf(t, p.next)
		l := slices.Clone(p.merges)
		first := asked(t, g, l)
		second := asked(t, g, l)
		clear(second.flaws[:cap(second.flaws)])
		for _, nodes := range second.constructs {
			nodes = nodes[:cap(nodes)]
			for k := range nodes {
				nodes[k] = 99
			}
		}
		if third := asked(t, g, l); !third.equal(first) {
			t.Fatalf("%v; %v", first, third)
		}
		for i := range l {
			l[i] = no
		}
		if !first.equal(saidAnswers(p)) {
			t.Fatalf("answers share memory: %v", first)
		}
	}
}

// R5: several goroutines may ask of one graph at one time.
func TestManyAsk(t *testing.T) {
	d := dice(1615)
	p := d.spoiled(d.grown(30, true))
	g := graphOf(t, p.next)
	want := saidAnswers(p)
	m := d.module(5)
	said := saidModule(t, m)
	var done sync.WaitGroup
	for range 8 {
		done.Go(func() {
			for range 10 {
				flaws, _ := Flaws(g, p.merges)
				if !slices.Equal(flaws, want.flaws) || Check(g, p.merges) != want.check || Module(m) != said {
					t.Error("other answers")
				}
				for i := range p.next {
					nodes, e := Construct(g, p.merges, i)
					head, _ := Inner(g, p.merges, i)
					if e != want.kinds[i] || !slices.Equal(nodes, want.constructs[i]) || head != want.inner[i] {
						t.Errorf("other answers of %d", i)
					}
				}
			}
		})
	}
	done.Wait()
}
