package ids

import (
	"math"
	"slices"
	"testing"

	"intaglio/api"
)

// holdRename says whether Rename is that module.
func holdRename(t *testing.T, m api.Module, to []uint32, want api.Module) {
	t.Helper()
	if x, s := Rename(m, to); s != (api.Spot{}) || !same(x, want) {
		t.Errorf("Rename by %v: %v, %v; not %v", to[:min(len(to), 20)], x, s, want)
	}
}

// holdNoRename says whether Rename refuses the numbers, with nothing beside it.
func holdNoRename(t *testing.T, m api.Module, to []uint32) {
	t.Helper()
	if x, s := Rename(m, to); s != spot(api.ErrArg, 0) || !same(x, api.Module{}) {
		t.Errorf("Rename by %v: %v, %v", to[:min(len(to), 20)], x, s)
	}
}

// holdRenumber says whether Renumber is that module.
func holdRenumber(t *testing.T, m, want api.Module) {
	t.Helper()
	if x, s := Renumber(m); s != (api.Spot{}) || !same(x, want) {
		t.Errorf("Renumber: %v, %v; not %v", x, s, want)
	}
}

// P9.3: the chapter's examples.
func TestRenameExamples(t *testing.T) {
	m := modelled(9, "%5 = OpTypeBool", "%3 = OpTypeVector %5 2")
	holdRenumber(t, m, modelled(3, "%1 = OpTypeBool", "%2 = OpTypeVector %1 2"))
	m, _ = Renumber(m)
	holdRename(t, m, []uint32{0, 2, 1}, modelled(3, "%2 = OpTypeBool", "%1 = OpTypeVector %2 2"))
	holdNoRename(t, m, []uint32{0, 1, 1})
	holdNoRename(t, m, []uint32{0, 1})
}

// P9.3: each id is another one: of a type, a result, an argument, however often it stands there; numbers, enumerants, texts, the generator and the bound stay.
func TestRename(t *testing.T) {
	m := read(5, `OpName %1 "1"`, "OpSource ESSL 1", "%1 = OpTypeInt 1 3", "%2 = OpConstant %1 3", "%3 = OpIAdd %1 %2 %2", "%2 = OpCompositeExtract %1 %3 2 1 4 3", "OpSwitch %1 %2 2 %3 1 %4", "OpReturn", "%3 = OpVariable %1 Output %3")
	want := read(5, `OpName %3 "1"`, "OpSource ESSL 1", "%3 = OpTypeInt 1 3", "%4 = OpConstant %3 3", "%2 = OpIAdd %3 %4 %4", "%4 = OpCompositeExtract %3 %2 2 1 4 3", "OpSwitch %3 %4 2 %2 1 %1", "OpReturn", "%2 = OpVariable %3 Output %2")
	holdRename(t, m, []uint32{0, 3, 4, 2, 1}, want)
	holdRename(t, want, []uint32{0, 4, 3, 1, 2}, m)
	huge := m
	huge.Generator, want.Generator = math.MaxUint32, math.MaxUint32
	holdRename(t, huge, []uint32{0, 3, 4, 2, 1}, want)
}

// P9.3: renamings that leave all ids, and modules without ids or instructions.
func TestRenameLeaves(t *testing.T) {
	for _, m := range []api.Module{module(7, 1), module(7, 9), modelled(1), modelled(9), shader(), module(7, sampleBound, samples()...), read(api.MaxBound, "%65535 = OpTypeVector %1 2")} {
		holdRename(t, m, unchanged(m.Bound), m)
	}
	holdRename(t, module(7, 3), []uint32{0, 2, 1}, module(7, 3))
	holdRename(t, modelled(3), []uint32{0, 2, 1}, modelled(3))
}

// P9.3: the greatest bound.
func TestRenameAtLimit(t *testing.T) {
	to := unchanged(api.MaxBound)
	slices.Reverse(to[1:])
	m := read(api.MaxBound, "%65535 = OpTypeVector %1 2", "%7 = OpTypeBool")
	holdRename(t, m, to, read(api.MaxBound, "%1 = OpTypeVector %65535 2", "%65529 = OpTypeBool"))
	holdNoRename(t, m, to[:api.MaxBound-1])
	holdNoRename(t, m, append(slices.Clone(to), api.MaxBound))
	to[api.MaxBound-1] = 2
	holdNoRename(t, m, to)
	to[api.MaxBound-1] = api.MaxBound
	holdNoRename(t, m, to)
	to[api.MaxBound-1] = 0
	holdNoRename(t, m, to)
}

// P9.3: numbers that are no renaming: one less, one more, another first one, one that stands twice, one that is none. It does not matter whether the module has such an id.
func TestRenameRefuses(t *testing.T) {
	for _, m := range []api.Module{modelled(4, "%1 = OpTypeBool", "%2 = OpTypeVector %1 2", "%3 = OpTypeVector %1 3"), modelled(4), module(7, 4)} {
		for _, to := range [][]uint32{
			nil, {}, {0}, {0, 1}, {0, 1, 2}, {0, 1, 2, 3, 4}, {0, 1, 2, 3, 0}, {0, 1, 2, 3, 3}, {0, 0, 1, 2, 3},
			{1, 0, 2, 3}, {3, 1, 2, 0}, {1, 2, 3, 0}, {1, 1, 2, 3}, {4, 1, 2, 3}, {math.MaxUint32, 1, 2, 3},
			{0, 1, 1, 3}, {0, 3, 2, 3}, {0, 2, 2, 2}, {0, 0, 2, 3}, {0, 1, 2, 0}, {0, 0, 0, 0},
			{0, 1, 2, 4}, {0, 4, 2, 3}, {0, 1, 5, 3}, {0, 1, 2, math.MaxUint32}, {0, 1, 2, 1 << 31}, {0, 1, 2, 1<<16 + 3},
		} {
			holdNoRename(t, m, to)
		}
	}
	holdNoRename(t, module(7, 1), nil)
	holdNoRename(t, module(7, 1), []uint32{1})
	holdNoRename(t, module(7, 1), []uint32{0, 0})
	holdNoRename(t, module(7, 1), []uint32{0, 1})
	holdRename(t, module(7, 1), []uint32{0}, module(7, 1))
	holdNoRename(t, module(7, 2), []uint32{0, 0})
	holdNoRename(t, module(7, 2), []uint32{1, 0})
	holdRename(t, module(7, 2), []uint32{0, 1}, module(7, 2))
}

// P9.3: all lists of four numbers or less below five: a renaming is one just if it is the 0 and each other number below the bound once.
func TestRenameSmall(t *testing.T) {
	m := read(4, "%1 = OpTypeStruct %2 %3")
	right := 0
	for length := range 6 {
		for n := range 5 * 5 * 5 * 5 * 5 {
			to := make([]uint32, length)
			for i := range to {
				to[i] = uint32(n % 5)
				n /= 5
			}
			sorted := slices.Clone(to)
			slices.Sort(sorted)
			if length > 0 && to[0] == 0 && slices.Equal(sorted, []uint32{0, 1, 2, 3}) {
				right++
				holdRename(t, m, to, saidRename(m, to))
			} else {
				holdNoRename(t, m, to)
			}
		}
	}
	if right < 6 {
		t.Errorf("%d renamings", right)
	}
}

// P9.3: an instruction of every form.
func TestRenameEveryForm(t *testing.T) {
	d := dice(93)
	for _, i := range samples() {
		m := module(7, sampleBound, i)
		to := d.renaming(sampleBound)
		holdRename(t, m, to, saidRename(m, to))
	}
}

// P9.3: modules of good shape made by chance, in order and not.
func TestRenameByChance(t *testing.T) {
	d := dice(94)
	for range 2000 {
		m := d.shaped(12, 2+uint32(d.below(12)))
		if d.below(2) == 0 {
			m = d.spoiled(d.sound(), 2)
		}
		to := d.renaming(m.Bound)
		holdRename(t, m, to, saidRename(m, to))
	}
}

// P9.3: ids are numbered by the places at which they are made, also where they are named ahead; the bound is one more than how many there are.
func TestRenumber(t *testing.T) {
	holdRenumber(t, modelled(1), modelled(1))
	holdRenumber(t, modelled(9), modelled(1))
	holdRenumber(t, modelled(api.MaxBound), modelled(1))
	holdRenumber(t, modelled(2, "%1 = OpTypeBool"), modelled(2, "%1 = OpTypeBool"))
	holdRenumber(t, modelled(api.MaxBound, "%65535 = OpTypeBool"), modelled(2, "%1 = OpTypeBool"))
	holdRenumber(t, modelled(30, `%20 = OpString "20"`, `OpName %7 "5"`, "OpDecorate %20 Location 20", "%9 = OpTypeInt 9 7", "%7 = OpConstant %9 20"),
		modelled(4, `%1 = OpString "20"`, `OpName %3 "5"`, "OpDecorate %1 Location 20", "%2 = OpTypeInt 9 7", "%3 = OpConstant %2 20"))
	holdRenumber(t, function("OpBranch %19", "%19 = OpLabel", "%18 = OpPhi %1 %18 %19 %17 %5", "%17 = OpLoad %1 %17", "OpBranch %19"),
		shrunk(function("OpBranch %6", "%6 = OpLabel", "%7 = OpPhi %1 %7 %6 %8 %5", "%8 = OpLoad %1 %8", "OpBranch %6"), 9))
	full := module(7, api.MaxBound, model())
	want := module(7, api.MaxBound, model())
	for id := range uint32(api.MaxBound - 1) {
		full.Insts = append(full.Insts, inst(20, 0, api.MaxBound-1-id))
		want.Insts = append(want.Insts, inst(20, 0, 1+id))
	}
	holdRenumber(t, full, want)
}

// shrunk is a module with another bound.
func shrunk(m api.Module, bound uint32) api.Module {
	m.Bound = bound
	return m
}

// P9.3: a whole shader: what it makes is numbered one behind the other.
func TestRenumberShader(t *testing.T) {
	m, s := Renumber(shader())
	if s != (api.Spot{}) || m.Bound != 28 || !same(m, saidRenumber(shader())) {
		t.Fatalf("%v, %v", m, s)
	}
	next := uint32(1)
	for at, i := range m.Insts {
		if i.Result != 0 {
			if i.Result != next {
				t.Errorf("%d is made at %d; not %d", i.Result, at, next)
			}
			next++
		}
	}
	if next != m.Bound {
		t.Errorf("%d ids, the bound %d", next-1, m.Bound)
	}
}

// P9.3: modules whose ids are sound, made by chance.
func TestRenumberByChance(t *testing.T) {
	d := dice(95)
	for range 2000 {
		m := d.sound()
		holdRenumber(t, m, saidRenumber(m))
	}
}
