package ids

import (
	"math"
	"slices"
	"testing"

	"intaglio/api"
)

// holdMade says whether Made are those places.
func holdMade(t *testing.T, m api.Module, want ...int) {
	t.Helper()
	if l, s := Made(m); s != (api.Spot{}) || !slices.Equal(l, want) {
		t.Errorf("Made: %v, %v; not %v", l, s, want)
	}
}

// holdUses says whether Uses are those places.
func holdUses(t *testing.T, m api.Module, id uint32, want ...int) {
	t.Helper()
	if l, s := Uses(m, id); s != (api.Spot{}) || !slices.Equal(l, want) {
		t.Errorf("Uses of %d: %v, %v; not %v", id, l, s, want)
	}
}

// P9.2: the chapter's example.
func TestMadeExample(t *testing.T) {
	m := modelled(3, `OpName %2 "two"`, "%1 = OpTypeVector %2 2", "%2 = OpTypeBool")
	holdMade(t, m, -1, 2, 3)
	holdUses(t, m, 2, 1, 2)
	holdUses(t, m, 1)
}

// P9.2: a place for each number below the bound: the least one; none of 0, nor of what none makes. Modules of good shape need not be in order.
func TestMade(t *testing.T) {
	holdMade(t, module(7, 1), -1)
	holdMade(t, modelled(1), -1)
	holdMade(t, module(7, 4), -1, -1, -1, -1)
	holdMade(t, read(5, "%4 = OpTypeBool", "%2 = OpTypeBool", "%4 = OpTypeBool", "%4 = OpTypeVoid"), -1, -1, 1, -1, 0)
	holdMade(t, read(3, "OpReturnValue %1", "%1 = OpLabel", "%1 = OpLabel"), -1, 1, -1)
	// What is named is not made by that: a type, an argument.
	holdMade(t, read(6, "%1 = OpIAdd %2 %3 %4", "OpStore %5 %5"), -1, 0, -1, -1, -1, -1)
	holdMade(t, read(4, "%1 = OpConstant %2 3", "%2 = OpTypeInt 3 3"), -1, 0, 1, -1)
	for _, c := range badOrders() {
		if l, s := Made(c.m); s != (api.Spot{}) || len(l) != int(c.m.Bound) {
			t.Errorf("%s: %v, %v", c.name, l, s)
		}
	}
}

// P9.2: the greatest bound.
func TestMadeAtLimit(t *testing.T) {
	l, s := Made(read(api.MaxBound, "%65535 = OpTypeBool", "%1 = OpTypeBool"))
	if s != (api.Spot{}) || len(l) != api.MaxBound || l[0] != -1 || l[1] != 1 || l[2] != -1 || l[65534] != -1 || l[65535] != 0 {
		t.Errorf("%d places, %v", len(l), s)
	}
	m := module(7, api.MaxBound)
	for id := range uint32(api.MaxBound - 1) {
		m.Insts = append(m.Insts, inst(20, 0, api.MaxBound-1-id))
	}
	l, s = Made(m)
	if s != (api.Spot{}) || len(l) != api.MaxBound || l[0] != -1 {
		t.Fatalf("%d places, %v", len(l), s)
	}
	for id := 1; id < api.MaxBound; id++ {
		if l[id] != api.MaxBound-1-id {
			t.Fatalf("%d is made at %d", id, l[id])
		}
	}
	holdUses(t, read(api.MaxBound, "OpReturnValue %65535", "OpReturnValue %65534"), 65535, 0)
}

// P9.2: the places rise, and each stands there once, however often an instruction names the id: as its type, as an argument. What makes it does not name it.
func TestUses(t *testing.T) {
	m := read(9,
		"%1 = OpTypeBool",
		"%2 = OpTypeStruct %1 %1 %1",
		"%3 = OpUndef %1",
		"%4 = OpTypeStruct %4",
		"%5 = OpIAdd %1 %1 %1",
		"%1 = OpLabel",
		`OpName %1 "a"`,
		"%6 = OpPhi %2 %3 %1 %3 %5",
		"OpSwitch %3 %5 1 %2 5 %1",
		`OpEntryPoint Vertex %6 "a" %6 %2 %2`,
		"%1 = OpCopyObject %1 %1",
	)
	holdUses(t, m, 1, 1, 2, 4, 6, 7, 8, 10)
	holdUses(t, m, 2, 7, 8, 9)
	holdUses(t, m, 3, 7, 8)
	holdUses(t, m, 4, 3)
	holdUses(t, m, 5, 7, 8)
	holdUses(t, m, 6, 9)
	holdUses(t, m, 7)
	holdUses(t, shader(), 3, 12, 13, 14, 15, 16, 18, 25, 29, 36, 37, 38, 40, 41)
	holdUses(t, shader(), 10, 2, 3, 5)
	holdUses(t, shader(), 14, 29, 32)
	holdUses(t, shader(), 7)
	holdUses(t, shader(), 20)
}

// P9.2: numbers and enumerants are no ids.
func TestUsesNumbers(t *testing.T) {
	m := read(9, "OpSource GLSL 2", "%1 = OpTypeInt 2 2", "%3 = OpConstant %1 2", "%4 = OpVectorShuffle %1 %3 %3 2", "OpSwitch %3 %1 2 %1", "OpSelectionMerge %3 DontFlatten", "OpDecorate %4 Location 2")
	holdUses(t, m, 2)
	holdUses(t, m, 1, 2, 3, 4)
}

// P9.2: none of a number that is no id of the module.
func TestUsesOfNoId(t *testing.T) {
	for _, m := range []api.Module{module(7, 1), modelled(1), modelled(9, "%1 = OpTypeBool", "%2 = OpTypeVector %1 2"), shader(), read(api.MaxBound, "%65535 = OpTypeVector %65535 2")} {
		for _, id := range []uint32{0, m.Bound, m.Bound + 1, api.MaxBound, math.MaxInt32, 1 << 31, math.MaxUint32} {
			holdUses(t, m, id)
		}
	}
}

// P9.2: an instruction of every form: the id that it makes, the ids that it names.
func TestMadeAndUsesEveryForm(t *testing.T) {
	for _, i := range samples() {
		m := module(7, sampleBound, inst(56, 0, 0), i, inst(56, 0, 0), i)
		l, s := Made(m)
		if s != (api.Spot{}) || len(l) != sampleBound {
			t.Fatalf("%v: %v, %v", i, l, s)
		}
		for id := range uint32(sampleBound) {
			if want := saidFirst(m, id); l[id] != want {
				t.Errorf("%v: %d is made at %d; not at %d", i, id, l[id], want)
			}
			holdUses(t, m, id, saidUses(m, id)...)
		}
	}
}

// P9.2: modules of good shape made by chance.
func TestMadeAndUsesByChance(t *testing.T) {
	d := dice(92)
	for range 1500 {
		m := d.shaped(12, 9)
		if d.below(2) == 0 {
			m = d.spoiled(d.sound(), 3)
		}
		var want []int
		for id := range m.Bound {
			want = append(want, saidFirst(m, id))
			holdUses(t, m, id, saidUses(m, id)...)
		}
		holdMade(t, m, want...)
	}
}

// P9.2, P9.3, R2: what code.Shape says of a module goes ahead, as it is, and there is nothing beside it.
func TestAskShape(t *testing.T) {
	for _, c := range badShapes() {
		if l, s := Made(c.m); s != c.s || len(l) != 0 {
			t.Errorf("%s: Made: %d places, %v", c.name, len(l), s)
		}
		for _, id := range []uint32{0, 1, 9, math.MaxUint32} {
			if l, s := Uses(c.m, id); s != c.s || len(l) != 0 {
				t.Errorf("%s: Uses: %v, %v", c.name, l, s)
			}
		}
		for _, to := range [][]uint32{nil, {0}, unchanged(9), {1, 1}} {
			if m, s := Rename(c.m, to); s != c.s || !same(m, api.Module{}) {
				t.Errorf("%s: Rename: %v, %v", c.name, m, s)
			}
		}
	}
}
