package ids

import (
	"math"
	"slices"
	"testing"

	"intaglio/api"
)

// holdAlike says whether Alike answers that, from both sides.
func holdAlike(t *testing.T, a, b api.Module, want bool) {
	t.Helper()
	if Alike(a, b) != want || Alike(b, a) != want {
		t.Errorf("Alike is not %v: %v, %v", want, a, b)
	}
}

// P9.4: modules that are the same but for their ids.
func TestAlike(t *testing.T) {
	for _, c := range [][2]api.Module{
		{module(7, 1), module(7, 1)},
		{module(7, 1), module(7, api.MaxBound)},
		{modelled(1), modelled(9)},
		{modelled(9, "%1 = OpTypeBool"), modelled(9, "%8 = OpTypeBool")},
		{modelled(9, "%1 = OpTypeBool", "%2 = OpTypeVoid"), modelled(9, "%2 = OpTypeBool", "%1 = OpTypeVoid")},
		{modelled(9, "%1 = OpTypeBool", "%2 = OpTypeVector %1 2"), modelled(40, "%30 = OpTypeBool", "%2 = OpTypeVector %30 2")},
		{read(3, "%1 = OpTypeVector %2 2", "%2 = OpTypeBool"), read(3, "%2 = OpTypeVector %1 2", "%1 = OpTypeBool")},
		{read(4, "%1 = OpIAdd %2 %3 %3", "OpStore %3 %1"), read(api.MaxBound, "%9 = OpIAdd %65535 %1 %1", "OpStore %1 %9")},
		{read(9, "%1 = OpIAdd %1 %1 %1"), read(9, "%4 = OpIAdd %4 %4 %4")},
		// An id that both have need not be paired with itself; nor must it go round.
		{read(5, "OpStore %1 %2", "OpStore %3 %4"), read(5, "OpStore %2 %3", "OpStore %4 %1")},
		// Neither need be in order, nor their ids be made.
		{read(9, "OpReturn", "OpMemoryModel Logical Simple", "OpReturnValue %3"), read(9, "OpReturn", "OpMemoryModel Logical Simple", "OpReturnValue %4")},
	} {
		holdAlike(t, c[0], c[1], true)
		holdAlike(t, c[0], c[0], true)
		holdAlike(t, c[1], c[1], true)
	}
}

// P9.4: bounds are not looked at: the same instructions by every bound by which they are of good shape.
func TestAlikeBounds(t *testing.T) {
	m := modelled(3, "%1 = OpTypeBool", "%2 = OpTypeVector %1 2")
	for _, bound := range []uint32{3, 4, 100, api.MaxBound - 1, api.MaxBound} {
		holdAlike(t, m, shrunk(m, bound), true)
	}
	for _, bound := range []uint32{0, 1, 2, api.MaxBound + 1, math.MaxUint32} {
		holdAlike(t, m, shrunk(m, bound), false)
	}
}

// P9.4: modules that differ in one thing that is no id.
func TestAlikeDiffers(t *testing.T) {
	m := read(9, "OpCapability Shader", "OpMemoryModel Logical Simple", `OpName %1 "a"`, "%1 = OpTypeInt 32 0", "%2 = OpConstant %1 7", "%3 = OpTypeStruct %1 %1", "OpSwitch %2 %1 1 %3", "%4 = OpIAdd %1 %2 %2")
	for name, change := range map[string]func(m *api.Module){
		"the generator":        func(m *api.Module) { m.Generator++ },
		"a generator of 0":     func(m *api.Module) { m.Generator = 0 },
		"one less":             func(m *api.Module) { m.Insts = m.Insts[:len(m.Insts)-1] },
		"one more":             func(m *api.Module) { m.Insts = append(m.Insts, inst(253, 0, 0)) },
		"none":                 func(m *api.Module) { m.Insts = nil },
		"the order":            func(m *api.Module) { m.Insts[0], m.Insts[1] = m.Insts[1], m.Insts[0] },
		"an operation":         func(m *api.Module) { m.Insts[7].Op++; m.Insts[7].Op++ },
		"an enumerant":         func(m *api.Module) { m.Insts[0].Args[0].N = 0 },
		"the second enumerant": func(m *api.Module) { m.Insts[1].Args[1].N = 1 },
		"a text":               func(m *api.Module) { m.Insts[2].Args[1].S = "b" },
		"a longer text":        func(m *api.Module) { m.Insts[2].Args[1].S = "ab" },
		"no text":              func(m *api.Module) { m.Insts[2].Args[1].S = "" },
		"a number":             func(m *api.Module) { m.Insts[4].Args[0].N = 8 },
		"a number among ids":   func(m *api.Module) { m.Insts[6].Args[2].N = 2 },
		"an argument less":     func(m *api.Module) { m.Insts[5].Args = m.Insts[5].Args[:1] },
		"an argument more":     func(m *api.Module) { m.Insts[5].Args = append(m.Insts[5].Args, anId(1)) },
		"another new argument": func(m *api.Module) { m.Insts[5].Args = append(m.Insts[5].Args, anId(8)) },
		"a row more":           func(m *api.Module) { m.Insts[6].Args = append(m.Insts[6].Args, aNumber(5), anId(1)) },
		"a row less":           func(m *api.Module) { m.Insts[6].Args = m.Insts[6].Args[:2] },
		"a type as an argument": func(m *api.Module) {
			m.Insts[7] = inst(78, 1, 4, anId(2), anId(2), anId(2))
		},
		"a type in the place of an argument": func(m *api.Module) { m.Insts[4] = inst(249, 0, 0, anId(1)) },
		"a result in the place of a type":    func(m *api.Module) { m.Insts[3] = inst(249, 0, 0, anId(1)) },
	} {
		x := apart(m)
		change(&x)
		if s := Alike(x, x); !s {
			t.Fatalf("%s: not of good shape", name)
		}
		holdAlike(t, m, x, false)
		to := []uint32{0, 8, 7, 6, 5, 4, 3, 2, 1}
		y, s := Rename(x, to)
		if s.Err != api.OK {
			t.Fatalf("%s: %v", name, s)
		}
		holdAlike(t, x, y, true)
		holdAlike(t, m, y, false)
	}
}

// P9.4: ids that can be paired in one direction alone: two of the one module would be one of the other.
func TestAlikeOneWay(t *testing.T) {
	for _, c := range [][2]api.Module{
		{modelled(9, "%1 = OpTypeBool", "%2 = OpTypeVector %1 2"), modelled(9, "%1 = OpTypeBool", "%2 = OpTypeVector %2 2")},
		{modelled(9, "%1 = OpTypeBool", "%2 = OpTypeBool"), modelled(9, "%1 = OpTypeBool", "%1 = OpTypeBool")},
		{read(9, "OpStore %1 %2"), read(9, "OpStore %1 %1")},
		{read(9, "OpStore %1 %2"), read(9, "OpStore %2 %2")},
		{read(9, "OpStore %1 %2"), read(9, "OpStore %3 %3")},
		{read(9, "%1 = OpUndef %2"), read(9, "%1 = OpUndef %1")},
		{read(9, "%1 = OpUndef %2"), read(9, "%2 = OpUndef %2")},
		{read(9, "OpStore %1 %2", "OpStore %1 %2"), read(9, "OpStore %1 %2", "OpStore %2 %1")},
		{read(9, "OpStore %1 %2", "OpStore %3 %1"), read(9, "OpStore %1 %2", "OpStore %3 %2")},
		{read(9, "OpReturnValue %1", "OpReturn", "OpReturnValue %2"), read(9, "OpReturnValue %5", "OpReturn", "OpReturnValue %5")},
		{read(9, "%1 = OpIAdd %2 %3 %4"), read(9, "%1 = OpIAdd %2 %3 %3")},
		{read(9, "%1 = OpIAdd %2 %3 %4"), read(9, "%1 = OpIAdd %3 %3 %4")},
		{read(9, "%1 = OpIAdd %2 %3 %4"), read(9, "%4 = OpIAdd %2 %3 %4")},
	} {
		holdAlike(t, c[0], c[1], false)
	}
	// Ids that are paired first by later instructions, or in a long row.
	a := inst(30, 0, 1, slices.Repeat([]api.Arg{anId(2)}, 1000)...)
	b := inst(30, 0, 1, slices.Repeat([]api.Arg{anId(2)}, 1000)...)
	holdAlike(t, module(7, 9, a), module(7, 9, b), true)
	b.Args[999].N = 3
	holdAlike(t, module(7, 9, a), module(7, 9, b), false)
}

// P9.4: a module that is not of good shape is alike to none, itself neither.
func TestAlikeAsksShape(t *testing.T) {
	for _, c := range badShapes() {
		if Alike(c.m, c.m) {
			t.Errorf("%s: alike to itself", c.name)
		}
		for _, m := range []api.Module{shader(), module(7, 1), module(7, 9)} {
			if Alike(c.m, m) || Alike(m, c.m) {
				t.Errorf("%s: alike to another one", c.name)
			}
		}
	}
	right := modelled(9, "%1 = OpTypeBool", "%2 = OpTypeVector %1 2")
	for _, change := range []func(m *api.Module){
		func(m *api.Module) { m.Insts[2].Args[0].S = "a" },
		func(m *api.Module) { m.Insts[2].Args[0].Kind = api.ArgNumber },
		func(m *api.Module) { m.Insts[2].Args[0].N = 0 },
		func(m *api.Module) { m.Insts[2].Args[0].N = 9 },
		func(m *api.Module) { m.Insts[2].Type = 1 },
		func(m *api.Module) { m.Insts[2].Result = 0 },
		func(m *api.Module) { m.Insts[2].Result = 9 },
		func(m *api.Module) { m.Insts[0].Args[1].N = 2 },
	} {
		x := apart(right)
		change(&x)
		holdAlike(t, x, x, false)
		holdAlike(t, right, x, false)
	}
}

// P9.4: the instructions of all forms, each held against each.
func TestAlikeEveryForm(t *testing.T) {
	all := samples()
	for n, a := range all {
		for k, b := range all {
			if got := Alike(module(7, sampleBound, a), module(7, sampleBound, b)); got != (n == k) {
				t.Errorf("%v: %v, %v", got, a, b)
			}
		}
	}
}

// orders are all renamings of a bound.
func orders(bound uint32) [][]uint32 {
	all := [][]uint32{{0}}
	for id := uint32(1); id < bound; id++ {
		var more [][]uint32
		for _, l := range all {
			for at := 1; at <= len(l); at++ {
				more = append(more, slices.Insert(slices.Clone(l), at, id))
			}
		}
		all = more
	}
	return all
}

// saidAlike is what the chapter says of modules of good shape and of one bound, tried out with all ways to pair ids.
func saidAlike(a, b api.Module) bool {
	return slices.ContainsFunc(orders(a.Bound), func(to []uint32) bool { return same(saidRename(a, to), b) })
}

// P9.4: modules of few ids, held against all renamings.
func TestAlikeByChance(t *testing.T) {
	d := dice(96)
	count := map[bool]int{}
	for range 4000 {
		a := d.shaped(4, 5)
		b, s := Rename(a, d.renaming(5))
		if s.Err != api.OK {
			t.Fatal(s)
		}
		if len(b.Insts) > 0 && d.below(3) > 0 {
			b = d.spoiled(b, 1)
		}
		if d.below(20) == 0 {
			b.Generator++
		}
		want := saidAlike(a, b)
		count[want]++
		holdAlike(t, a, b, want)
	}
	if count[true] < 500 || count[false] < 500 {
		t.Errorf("%v", count)
	}
}

// P9.4: as many ids and words as a module may have.
func TestAlikeAtLimit(t *testing.T) {
	var a, b []api.Inst
	for id := range uint32(api.MaxBound - 1) {
		a = append(a, inst(249, 0, 0, anId(id+1)))
		b = append(b, inst(249, 0, 0, anId(api.MaxBound-1-id)))
	}
	holdAlike(t, module(7, api.MaxBound, a...), module(7, api.MaxBound, b...), true)
	b[len(b)-1].Args[0].N = 2
	holdAlike(t, module(7, api.MaxBound, a...), module(7, api.MaxBound, b...), false)
}
