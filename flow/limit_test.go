package flow

import (
	"slices"
	"testing"

	"intaglio/api"
)

// large is a module of the bound MaxBound, of the types of nothing (1), truths (2) and functions (3), and a truth (4), with these functions. The ids from 5 on are free.
func large(functions ...[]api.Inst) api.Module {
	front := []api.Inst{inst(14, 0, 0, anEnum(0), anEnum(0)), inst(19, 0, 1), inst(20, 0, 2), inst(33, 0, 3, anId(1)), inst(41, 2, 4)}
	return api.Module{Bound: api.MaxBound, Insts: append(front, slices.Concat(functions...)...)}
}

// A function's ids in the modules here: its own, then its blocks' labels, then what is made.
const (
	functionId = 10
	firstLabel = 100
	firstValue = 10000
)

// blocksOf are the instructions of a function of n blocks, each of which has these instructions, and then leads where another call says.
func blocksOf(n int, has func(b int) []api.Inst, ends func(b int) api.Inst) []api.Inst {
	l := []api.Inst{inst(54, 1, functionId, anEnum(0), anId(3))}
	for b := range n {
		l = append(l, inst(248, 0, firstLabel+uint32(b)))
		l = append(l, has(b)...)
		l = append(l, ends(b))
	}
	return append(l, inst(56, 0, 0))
}

// branch leads to a block, choice to two.
func branch(b int) api.Inst { return inst(249, 0, 0, anId(firstLabel+uint32(b))) }

func choice(b, c int) api.Inst {
	return inst(250, 0, 0, anId(4), anId(firstLabel+uint32(b)), anId(firstLabel+uint32(c)))
}

// chain leads from each of n blocks to the next one.
func chain(n int) func(b int) api.Inst {
	return func(b int) api.Inst {
		if b+1 == n {
			return inst(253, 0, 0)
		}
		return branch(b + 1)
	}
}

// copies are so many copies of an id, whose results are from first on.
func copies(n int, first, id uint32) []api.Inst {
	var l []api.Inst
	for k := range n {
		l = append(l, inst(83, 2, first+uint32(k), anId(id)))
	}
	return l
}

// stores are stores of ids, two of them each.
func stores(first uint32, n int) []api.Inst {
	var l []api.Inst
	for k := 0; k < n; k += 2 {
		l = append(l, inst(62, 0, 0, anId(first+uint32(k)), anId(first+uint32(min(k+1, n-1)))))
	}
	return l
}

// holdCount says whether so many ids are wanted still where a block begins: those from the least on.
func holdCount(t *testing.T, m api.Module, b int, least uint32, n int) {
	t.Helper()
	l, s := Live(m, firstLabel+uint32(b))
	fine := s == (api.Spot{}) && len(l) == n
	for k, id := range l {
		fine = fine && id == least+uint32(k)
	}
	if !fine {
		t.Errorf("Live of the block %d: %v, %d ids; not %d", b, s, len(l), n)
	}
}

// holdOneFault says whether each of the three calls answers a fault, asked once.
func holdOneFault(t *testing.T, m api.Module, want api.Spot) {
	t.Helper()
	if s := Check(m); s != want {
		t.Errorf("Check: %v; not %v", s, want)
	}
	if l, s := Live(m, firstLabel+1); l != nil || s != want {
		t.Errorf("Live: %v, %v; not %v", l, s, want)
	}
	if is, s := Seen(m, 4, len(m.Insts)-2); is || s != want {
		t.Errorf("Seen: %v, %v; not %v", is, s, want)
	}
}

// P19.1, P19.2: the most blocks that a graph may have, one behind the other, and ids that are wanted through all of them.
func TestLongChain(t *testing.T) {
	const ids = 50000
	m := large(blocksOf(api.MaxNodes, func(b int) []api.Inst {
		switch b {
		case 0:
			return copies(ids, firstValue, 4)
		case api.MaxNodes - 1:
			return stores(firstValue, ids)
		}
		return nil
	}, chain(api.MaxNodes)))
	if s := Check(m); s != (api.Spot{}) {
		t.Fatalf("Check: %v", s)
	}
	holdCount(t, m, 0, firstValue, 0)
	holdCount(t, m, 1, firstValue, ids)
	holdCount(t, m, api.MaxNodes-1, firstValue, ids)
	if is, s := Seen(m, firstValue+ids-1, len(m.Insts)-2); !is || s != (api.Spot{}) {
		t.Errorf("Seen: %v, %v", is, s)
	}
	// What is named last is made last.
	other := copyOf(m)
	other.Insts[len(m.Insts)-3].Args[1].N = firstValue + ids
	other.Insts = slices.Insert(other.Insts, len(m.Insts)-2, inst(83, 2, firstValue+ids, anId(4)))
	if s := Check(other); s != spot(api.ErrUse, len(m.Insts)-3) {
		t.Errorf("Check: %v", s)
	}
}

// P19.1: one block more than a graph may have, behind a function that flows, and ahead of one that does not.
func TestOneBlockMore(t *testing.T) {
	fine := []api.Inst{inst(54, 1, 5, anEnum(0), anId(3)), inst(248, 0, 6), inst(253, 0, 0), inst(56, 0, 0)}
	wrong := []api.Inst{inst(54, 1, 7, anEnum(0), anId(3)), inst(248, 0, 8), inst(254, 0, 0, anId(firstLabel)), inst(56, 0, 0)}
	none := func(int) []api.Inst { return nil }
	m := large(fine, blocksOf(api.MaxNodes+1, none, chain(api.MaxNodes+1)), wrong)
	holdOneFault(t, m, spot(api.ErrLarge, 9))
	m = large(fine, blocksOf(api.MaxNodes, none, chain(api.MaxNodes)), wrong)
	holdOneFault(t, m, spot(api.ErrScope, len(m.Insts)-2))
}

// loops are n blocks: from the second half of them each leads back to one of the first half, the outermost loop last; each names what is made ahead of its loop, or right ahead of it.
func loops(n int) api.Module {
	return large(blocksOf(n, func(b int) []api.Inst {
		l := copies(2, firstValue+uint32(2*b), 4)
		if b > 0 {
			l = append(l, stores(firstValue+uint32(2*min(b-1, n-1-b)), 2)...)
		}
		return l
	}, func(b int) api.Inst {
		switch {
		case b == n-1:
			return inst(253, 0, 0)
		case b > n/2:
			return choice(b+1, n-b)
		}
		return branch(b + 1)
	}))
}

// P19.1, P19.2: loops in one another, of which each wants what is made ahead of it.
func TestManyLoops(t *testing.T) {
	m := loops(600)
	o := say(m)
	if s := Check(m); s != (api.Spot{}) || s != o.fault {
		t.Fatalf("Check: %v; said: %v", s, o.fault)
	}
	for _, b := range []int{0, 1, 2, 150, 299, 300, 301, 302, 450, 598, 599} {
		l, s := Live(m, firstLabel+uint32(b))
		if want, _ := o.live(firstLabel + uint32(b)); !slices.Equal(l, want) || s != (api.Spot{}) {
			t.Errorf("Live of the block %d: %v, %v; not %v", b, l, s, want)
		}
	}
	m = loops(api.MaxNodes)
	if s := Check(m); s != (api.Spot{}) {
		t.Fatalf("Check: %v", s)
	}
	// In the middle all that the loops around it name is wanted.
	holdCount(t, m, api.MaxNodes/2+1, firstValue, api.MaxNodes-2)
	holdCount(t, m, 0, 0, 0)
}

// P19.1, P19.2: a block with very many blocks ahead, and phis that take something of each.
func TestManyParents(t *testing.T) {
	const n, phis = 1001, 20
	// The first block leads to all but the last one by a switch; all of these lead to that.
	among := inst(251, 0, 0, anId(4), anId(firstLabel+1))
	for b := 2; b < n-1; b++ {
		among.Args = append(among.Args, aNumber(uint32(b)), anId(firstLabel+uint32(b)))
	}
	taking := func(value func(phi, parent int) uint32) api.Module {
		return large(blocksOf(n, func(b int) []api.Inst {
			switch b {
			case 0:
				return copies(phis, firstValue+n, 4)
			case n - 1:
				var l []api.Inst
				for k := range phis {
					phi := inst(opPhi, 2, uint32(firstValue+2*n+k))
					for parent := n - 2; parent > 0; parent-- {
						phi.Args = append(phi.Args, anId(value(k, parent)), anId(firstLabel+uint32(parent)))
					}
					l = append(l, phi)
				}
				return l
			}
			return copies(1, firstValue+uint32(b), 4)
		}, func(b int) api.Inst {
			switch b {
			case 0:
				return among
			case n - 1:
				return inst(253, 0, 0)
			}
			return branch(n - 1)
		}))
	}
	// The first phi takes what the parents make, the others what the first block does.
	fine := func(phi, parent int) uint32 {
		if phi == 0 {
			return uint32(firstValue + parent)
		}
		return uint32(firstValue + n + phi)
	}
	m := taking(fine)
	if s := Check(m); s != (api.Spot{}) {
		t.Fatalf("Check: %v", s)
	}
	holdCount(t, m, n-1, 0, 0)
	holdCount(t, m, 5, firstValue+n+1, phis-1)
	holdCount(t, m, 0, 0, 0)
	// The last phi takes what another parent makes.
	m = taking(func(phi, parent int) uint32 {
		if phi == phis-1 && parent == 1 {
			return firstValue + 2
		}
		return fine(phi, parent)
	})
	if s := Check(m); s != spot(api.ErrUse, len(m.Insts)-3) {
		t.Errorf("Check: %v", s)
	}
}

// R1: modules of very many functions are asked soon.
func TestManyFunctions(t *testing.T) {
	var l []api.Inst
	for id := uint32(100); id+3 < api.MaxBound; id += 3 {
		l = append(l, inst(54, 1, id, anEnum(0), anId(3)), inst(248, 0, id+1), inst(83, 2, id+2, anId(4)), inst(254, 0, 0, anId(id+2)), inst(56, 0, 0))
	}
	m := large(l)
	if s := Check(m); s != (api.Spot{}) {
		t.Fatalf("Check: %v", s)
	}
	last := len(m.Insts) - 2
	m.Insts[last].Args[0].N = 102
	holdOneFault(t, m, spot(api.ErrScope, last))
}
