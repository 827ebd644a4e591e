package typing

import (
	"slices"
	"testing"

	"intaglio/api"
	"intaglio/code"
)

// wide is a module of the bound MaxBound that begins with the types of nothing, numbers and truths (1 to 3), the number 1 (4), a struct of MaxMembers numbers (5), a constant of it (6), a pointer to it (7), one to a number (8), and the type of a function of nothing (9); then come these, and behind them a function that has these instructions. The ids from 10 on are free.
func wide(types []api.Inst, l ...api.Inst) api.Module {
	members := slices.Repeat([]api.Arg{anId(2)}, api.MaxMembers)
	front := []api.Inst{inst(14, 0, 0, anEnum(0), anEnum(0)), inst(19, 0, 1), inst(21, 0, 2, aNumber(32), aNumber(1)), inst(20, 0, 3), inst(43, 2, 4, aNumber(1)), inst(30, 0, 5, members...), inst(46, 5, 6), inst(32, 0, 7, anEnum(7), anId(5)), inst(32, 0, 8, anEnum(7), anId(2)), inst(33, 0, 9, anId(1))}
	begin := []api.Inst{inst(54, 1, 60000, anEnum(0), anId(9)), inst(248, 0, 60001)}
	return api.Module{Bound: api.MaxBound, Insts: slices.Concat(front, types, begin, l, []api.Inst{inst(253, 0, 0), inst(56, 0, 0)})}
}

// holdFirst says whether Check tells that place; none, if it is below 0.
func holdFirst(t *testing.T, m api.Module, at int) {
	t.Helper()
	want := api.Spot{}
	if at >= 0 {
		want = typed(at)
	}
	if s := Check(m); s != want {
		t.Errorf("Check: %v; not %v", s, want)
	}
}

// P18.1: a struct's last part of very many, and one more.
func TestLastMember(t *testing.T) {
	for k, is := range map[uint32]bool{0: true, 1: true, api.MaxMembers - 1: true, api.MaxMembers: false, 1<<32 - 1: false, 1 << 31: false} {
		types := []api.Inst{inst(43, 2, 10, aNumber(k))}
		for _, i := range []api.Inst{inst(81, 2, 20, anId(6), aNumber(k)), inst(82, 5, 20, anId(4), anId(6), aNumber(k)), inst(65, 8, 20, anId(21), anId(10))} {
			m := wide(types, inst(59, 7, 21, anEnum(7)), i)
			at := len(m.Insts) - 3
			if got, s := Fits(m, at); got != is || s != (api.Spot{}) {
				t.Errorf("Fits of %d: %v, %v; not %v", k, got, s, is)
			}
			if is {
				at = -1
			}
			holdFirst(t, m, at)
		}
	}
}

// P18.1: as many arguments as an instruction may have: parameters, parts of an array, indexes and numbers.
func TestManyArguments(t *testing.T) {
	// A call's words are its first one, its type, its result, the function, and what is handed in.
	n := api.MaxCount - 4
	given := slices.Repeat([]api.Arg{anId(4)}, n)
	call := inst(57, 1, 20, append([]api.Arg{anId(30000)}, given...)...)
	f := inst(33, 0, 10, append([]api.Arg{anId(1)}, slices.Repeat([]api.Arg{anId(2)}, n)...)...)
	m := wide([]api.Inst{f}, call)
	at := slices.IndexFunc(m.Insts, func(i api.Inst) bool { return i.Op == 57 })
	// What is called need not have the parameters that its type says.
	m.Insts = append(m.Insts, inst(54, 1, 30000, anEnum(0), anId(10)), inst(55, 2, 30001), inst(248, 0, 30002), inst(253, 0, 0), inst(56, 0, 0))
	holdFirst(t, m, at+3)
	m.Insts[at].Args = slices.Clone(m.Insts[at].Args)
	m.Insts[at].Args[n].N = 3
	holdFirst(t, m, at)
	m.Insts[at].Args = m.Insts[at].Args[:n]
	holdFirst(t, m, at)
	// Very long paths and chains lead nowhere.
	numbers := slices.Repeat([]api.Arg{aNumber(0)}, n)
	m = wide(nil, inst(59, 7, 21, anEnum(7)), inst(81, 2, 22, append([]api.Arg{anId(6)}, numbers...)...))
	holdFirst(t, m, len(m.Insts)-3)
	m = wide(nil, inst(59, 7, 21, anEnum(7)), inst(65, 8, 22, append([]api.Arg{anId(21)}, given...)...))
	holdFirst(t, m, len(m.Insts)-3)
	m = wide(nil, inst(79, 5, 22, append([]api.Arg{anId(6), anId(6)}, numbers[1:]...)...))
	holdFirst(t, m, len(m.Insts)-3)
}

// P18.1: an array of MaxSize parts, made of as many values.
func TestManyParts(t *testing.T) {
	types := []api.Inst{inst(43, 2, 10, aNumber(api.MaxSize)), inst(28, 0, 11, anId(2), anId(10))}
	all := slices.Repeat([]api.Arg{anId(4)}, api.MaxSize)
	m := wide(types, inst(80, 11, 20, all...), inst(81, 2, 21, anId(20), aNumber(api.MaxSize-1)))
	holdFirst(t, m, -1)
	m = wide(types, inst(80, 11, 20, all...), inst(81, 2, 21, anId(20), aNumber(api.MaxSize)))
	holdFirst(t, m, len(m.Insts)-3)
	m = wide(types, inst(80, 11, 20, all[1:]...))
	holdFirst(t, m, len(m.Insts)-3)
	m = wide(types, inst(80, 11, 20, append(slices.Clone(all), anId(4))...))
	holdFirst(t, m, len(m.Insts)-3)
}

// R1: modules of nearly as many words as may be are asked as soon: of stores, of variables that hold large values at first, of functions.
func TestLargeModules(t *testing.T) {
	var l []api.Inst
	l = append(l, inst(59, 7, 21, anEnum(7)))
	for len(l) < 340000 {
		l = append(l, inst(62, 0, 0, anId(21), anId(6)))
	}
	m := wide(nil, l...)
	holdFirst(t, m, -1)
	m.Insts[len(m.Insts)-3] = inst(62, 0, 0, anId(21), anId(4))
	holdFirst(t, m, len(m.Insts)-3)
	types := []api.Inst{inst(43, 2, 10, aNumber(api.MaxSize)), inst(28, 0, 11, anId(2), anId(10)), inst(46, 11, 12), inst(32, 0, 13, anEnum(7), anId(11))}
	l = nil
	for id := uint32(100); id < 60000; id++ {
		l = append(l, inst(59, 13, id, anEnum(7), anId(12)))
	}
	m = wide(types, l...)
	holdFirst(t, m, -1)
	m.Insts[len(m.Insts)-3] = inst(59, 13, 59999, anEnum(7), anId(6))
	holdFirst(t, m, len(m.Insts)-3)
	m = wide(nil)
	for id := uint32(100); id < 60000; id += 2 {
		m.Insts = append(m.Insts, inst(54, 1, id, anEnum(0), anId(9)), inst(248, 0, id+1), inst(253, 0, 0), inst(56, 0, 0))
	}
	holdFirst(t, m, -1)
	m.Insts[len(m.Insts)-4].Type = 2
	holdFirst(t, m, len(m.Insts)-4)
	if is, s := Fits(m, len(m.Insts)-2); is || s != (api.Spot{}) {
		t.Errorf("Fits: %v, %v", is, s)
	}
	if b, s := code.Encode(m); s.Err != api.OK || len(b) < 4*200000 {
		t.Errorf("a module of %d bytes, %v", len(b), s)
	}
}
