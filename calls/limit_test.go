package calls

import (
	"slices"
	"testing"

	"intaglio/api"
)

// P17.1, P17.3, P17.4: a chain of MaxNodes functions, upwards and downwards; closed, it goes round.
func TestChain(t *testing.T) {
	n := api.MaxNodes
	up, down := make([][]int, n), make([][]int, n)
	for i := range n - 1 {
		up[i], down[i+1] = row(i+1), row(i)
	}
	c, back := callsOf(t, up), callsOf(t, down)
	for i := range n {
		if c.Deep(i) != n-1-i || back.Deep(i) != i || c.Order()[i] != n-1-i || back.Order()[i] != i {
			t.Fatalf("of %d: Deep %d and %d", i, c.Deep(i), back.Deep(i))
		}
	}
	for _, i := range row(0, 1, 63, 64, 2000, n-1) {
		if l := c.Reached(i); len(l) != n-i || l[0] != i || l[len(l)-1] != n-1 {
			t.Errorf("Reached(%d): %v", i, l)
		}
		if l := back.Reached(i); len(l) != i+1 || l[0] != 0 || l[i] != i {
			t.Errorf("Reached(%d): %v", i, l)
		}
	}
	for _, to := range row(0, 1, n/2, n-2, n-1) {
		up[n-1] = row(to)
		if c, e := Of(up); e != api.ErrCycle || c != nil {
			t.Errorf("closed at %d: %d", to, e)
		}
	}
	for _, i := range noFunctions(n) {
		holdNothing(t, c, i)
	}
}

// P17.1, P17.3, P17.4: MaxNodes functions, each of which calls all behind it, and these twice; one call more goes round.
func TestAllBehind(t *testing.T) {
	n := api.MaxNodes
	behind := make([]int, n)
	for i := range behind {
		behind[i] = n - 1 - i
	}
	next := make([][]int, n)
	for i := range next {
		next[i] = slices.Concat(behind[:n-1-i], behind[:n-1-i])
	}
	c := callsOf(t, next)
	slices.Reverse(behind)
	for _, i := range row(0, 1, 2047, n-2, n-1) {
		if !slices.Equal(c.Calls(i), behind[i+1:]) || !slices.Equal(c.Called(i), behind[:i]) || !slices.Equal(c.Reached(i), behind[i:]) || c.Deep(i) != n-1-i {
			t.Errorf("of %d: %d, %d, %d, Deep %d", i, len(c.Calls(i)), len(c.Called(i)), len(c.Reached(i)), c.Deep(i))
		}
	}
	next[n-1] = row(0)
	if c, e := Of(next); e != api.ErrCycle || c != nil {
		t.Errorf("Of: %d", e)
	}
	next[n-1] = row(n)
	if c, e := Of(next); e != api.ErrRange || c != nil {
		t.Errorf("Of: %d", e)
	}
}

// R1, P17.2: very many calls, and very many functions that go round: what is wrong is told as soon.
func TestVeryManyCalls(t *testing.T) {
	m := module()
	m.Bound = api.MaxBound
	// The first half of the functions calls one the next, and the last of these the first of the other half, each of which calls many; the very last one calls itself.
	n, id := 2000, uint32(20+2*2000)
	for i := range n {
		m.Insts = append(m.Insts, api.Inst{Op: 54, Type: 1, Result: uint32(20 + 2*i), Args: []api.Arg{anEnum(0), anId(2)}}, api.Inst{Op: 248, Result: uint32(21 + 2*i)})
		called := 1
		if i >= n/2 {
			called = min(56, n-1-i)
		}
		for k := range called {
			m.Insts = append(m.Insts, api.Inst{Op: 57, Type: 1, Result: id, Args: []api.Arg{anId(uint32(20 + 2*(i+1+k)))}})
			id++
		}
		m.Insts = append(m.Insts, api.Inst{Op: 253}, api.Inst{Op: 56})
	}
	c, s := New(m)
	if s.Err != api.OK || c.Deep(0) != n-1 || len(c.Reached(0)) != n || id > api.MaxBound {
		t.Fatalf("New: %v, bound %d", s, id)
	}
	at := len(m.Insts) - 2
	m.Insts = slices.Insert(m.Insts, at, api.Inst{Op: 57, Type: 1, Result: id, Args: []api.Arg{anId(uint32(20 + 2*(n-1)))}})
	holdFault(t, m, spot(api.ErrCycle, at))
	// All of the second half go round.
	m.Insts[at].Args[0].N = uint32(20 + n)
	first := slices.IndexFunc(m.Insts, func(i api.Inst) bool { return i.Result == uint32(20+n) }) + 2
	holdFault(t, m, spot(api.ErrCycle, first))
}
