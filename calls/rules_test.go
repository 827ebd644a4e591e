package calls

import (
	"slices"
	"sync"
	"testing"

	"intaglio/api"
	"intaglio/ids"
)

// R4: of a nil Calls zeros, nothing, and -1 of what is no function.
func TestNil(t *testing.T) {
	var c *Calls
	if c.Len() != 0 || len(c.Order()) != 0 {
		t.Errorf("Len %d, Order %v", c.Len(), c.Order())
	}
	for _, i := range append(noFunctions(0), 0, 1, 2) {
		holdNothing(t, c, i)
	}
}

// R3: nil and empty lists are one.
func TestNilAndEmpty(t *testing.T) {
	holdCalls(t, callsOf(t, rows(nil, row(), row(0, 1))), rows(row(), nil, row(0, 1)))
	m := module(slices.Concat(fun(20), fun(22, call(30, 20)))...)
	for at := range m.Insts {
		if len(m.Insts[at].Args) == 0 {
			m.Insts[at].Args = []api.Arg{}
		}
	}
	holdNew(t, m, rows(row(), row(0)))
}

// R1, R2: every call ends, and none panics, whatever the rows.
func TestWhateverRows(t *testing.T) {
	d := dice(1710)
	for range 3000 {
		next := make([][]int, d.below(12))
		for i := range next {
			for range d.below(5) {
				next[i] = append(next[i], d.below(len(next)+3)-1)
			}
			if d.below(20) == 0 {
				next[i] = append(next[i], noFunctions(len(next))[d.below(15)])
			}
		}
		holdOf(t, next)
	}
}

// R1, R2, R8: every call ends, and none panics, whatever the module; what ids.Check says goes ahead.
func TestWhateverModule(t *testing.T) {
	d := dice(1711)
	count := map[api.Errno]int{}
	for range 4000 {
		m := d.module(d.rows(1+d.below(8)), true)
		for range d.below(3) {
			at := d.below(len(m.Insts))
			switch d.below(6) {
			case 0:
				m.Insts[at] = api.Inst{Op: uint16(d.below(1 << 16)), Result: uint32(d.below(30))}
			case 1:
				m.Insts = slices.Insert(m.Insts, at, m.Insts[d.below(len(m.Insts))])
			case 2:
				m.Insts = slices.Delete(m.Insts, at, at+1)
			case 3:
				m.Insts[at].Op = uint16(54 + d.below(4))
			case 4:
				m.Bound = uint32(d.below(1000))
			case 5:
				m.Insts[at].Args = nil
			}
		}
		if s := holdModule(t, m); s.Err == api.OK || s.Err == api.ErrCall || s.Err == api.ErrCycle {
			count[s.Err]++
		} else if s == ids.Check(m) {
			count[api.ErrOrder]++
		}
	}
	for _, e := range []api.Errno{api.OK, api.ErrCall, api.ErrCycle, api.ErrOrder} {
		if count[e] < 200 {
			t.Errorf("%d of the error %d", count[e], e)
		}
	}
}

// full is a list with something in the room behind its end.
func full(l []int) []int { return append(slices.Clone(l), 77, 78)[:len(l)] }

// R3: what is handed to Of is not changed, the room behind a list's end neither; nor does what becomes of it later change a Calls.
func TestRowsHandedIn(t *testing.T) {
	d := dice(1712)
	for range 500 {
		want := d.straight(1 + d.below(20))
		next := make([][]int, len(want), len(want)+1)
		for i, l := range want {
			next[i] = full(l)
		}
		next[:len(next)+1][len(next)] = row(5)
		c := callsOf(t, next)
		holdCalls(t, c, want)
		if !slices.EqualFunc(next, want, slices.Equal) || !slices.Equal(next[:len(next)+1][len(next)], row(5)) {
			t.Fatalf("what was handed in is changed: %v; not %v", next, want)
		}
		for _, l := range next {
			if !slices.Equal(l[:len(l)+2][len(l):], row(77, 78)) {
				t.Fatalf("the room behind a row's end is changed: %v", l[:len(l)+2])
			}
			clear(l[:len(l)+2])
		}
		clear(next[:len(next)+1])
		holdCalls(t, c, want)
	}
}

// R3: rows that share memory are rows as others.
func TestRowsThatShare(t *testing.T) {
	l := row(3, 4, 3, 5)
	c := callsOf(t, rows(l, l[:2], l[1:3], nil, nil, nil))
	holdCalls(t, c, rows(row(3, 4, 3, 5), row(3, 4), row(4, 3), nil, nil, nil))
}

// R3: what is handed to New is not changed, the room behind a list's end neither; nor does what becomes of it later change a Calls.
func TestModuleHandedIn(t *testing.T) {
	d := dice(1713)
	behind := []api.Arg{{Kind: api.ArgText, S: "behind"}, anId(77)}
	for range 300 {
		want := d.module(d.straight(1+d.below(10)), false)
		m := apart(want)
		for at, i := range m.Insts {
			m.Insts[at].Args = append(i.Args, behind...)[:len(i.Args)]
		}
		m.Insts = append(m.Insts, api.Inst{Op: 77})[:len(want.Insts)]
		c, s := New(m)
		if s.Err != api.OK {
			t.Fatalf("New: %v", s)
		}
		before := asked(c)
		if !same(m, want) || m.Insts[:len(m.Insts)+1][len(m.Insts)].Op != 77 {
			t.Fatal("what was handed in is changed")
		}
		for at, i := range m.Insts {
			if !slices.Equal(i.Args[:len(i.Args)+2][len(i.Args):], behind) {
				t.Fatalf("the room behind the arguments of %d is changed", at)
			}
			clear(i.Args[:len(i.Args)+2])
		}
		clear(m.Insts[:len(m.Insts)+1])
		if !asked(c).equal(before) {
			t.Fatal("what becomes of the module changes its Calls")
		}
		next, _ := saidNew(want)
		holdCalls(t, c, next)
	}
}

// spoil writes over lists, the room behind their ends too.
func spoil(lists ...[]int) {
	for _, l := range lists {
		l = l[:cap(l)]
		for k := range l {
			l[k] = -99
		}
	}
}

// R3, R5: what is answered is new memory, the room behind its end too: written over, it changes no later answer.
func TestAnswersMemory(t *testing.T) {
	d := dice(1714)
	for range 300 {
		next := d.straight(1 + d.below(30))
		c := callsOf(t, next)
		a := asked(c)
		spoil(a.calls...)
		spoil(a.called...)
		spoil(a.reached...)
		spoil(a.order)
		holdCalls(t, c, next)
		m := d.module(d.straight(1+d.below(8)), false)
		c, _ = New(m)
		a = asked(c)
		spoil(a.calls...)
		spoil(a.called...)
		spoil(a.reached...)
		spoil(a.order)
		next, _ = saidNew(m)
		holdCalls(t, c, next)
		// Another Calls of the same is no part of it.
		again, _ := New(m)
		a = asked(again)
		spoil(slices.Concat(a.calls, a.called, a.reached, rows(a.order))...)
		holdCalls(t, c, next)
	}
}

// R5: several goroutines may ask a Calls at one time, and make others; whatever else was asked.
func TestManyAsk(t *testing.T) {
	d := dice(1715)
	next := d.straight(60)
	c := callsOf(t, next)
	want := asked(c)
	m := d.module(d.straight(10), false)
	some, _ := New(m)
	said := asked(some)
	var done sync.WaitGroup
	for range 8 {
		done.Go(func() {
			for range 20 {
				if !asked(c).equal(want) {
					t.Error("other answers")
				}
				if other, e := Of(next); e != api.OK || !asked(other).equal(want) {
					t.Error("another Calls")
				}
				if other, s := New(m); s.Err != api.OK || !asked(other).equal(said) {
					t.Error("another Calls of the module")
				}
				if _, e := Of(rows(row(1), row(0))); e != api.ErrCycle {
					t.Errorf("Of: %d", e)
				}
			}
		})
	}
	done.Wait()
}
