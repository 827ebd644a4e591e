package typing

import (
	"math"
	"slices"
	"strings"
	"testing"

	"intaglio/api"
	"intaglio/asm"
	"intaglio/consts"
)

// lines is the module of lines with numbers for ids, by the bound 40.
func lines(l ...string) api.Module {
	m, s := asm.Parse("module 7 40\n" + strings.Join(l, "\n"))
	if s.Err != api.OK {
		panic("no module's lines: " + strings.Join(l, "; "))
	}
	return m
}

// all has instructions of each part; those of the part 8 begin at the place 21. The function does not fit at its OpFunction, and at its last instruction.
func all() api.Module {
	return lines(
		"OpCapability Shader",
		"OpMemoryModel Logical Simple",
		`OpEntryPoint Vertex %30 "main"`,
		"OpExecutionMode %30 OriginUpperLeft",
		"OpSource GLSL 100",
		`%39 = OpString "a"`,
		`OpName %1 "b"`,
		`OpMemberName %6 0 "c"`,
		"OpDecorate %31 Flat",
		"%1 = OpTypeVoid",
		"%2 = OpTypeInt 32 0",
		"%3 = OpTypeBool",
		"%4 = OpConstant %2 1",
		"%5 = OpTypeVector %2 2",
		"%6 = OpTypeStruct %2 %5",
		"%7 = OpTypePointer Private %2",
		"%8 = OpVariable %7 Private %4",
		"%9 = OpTypePointer Function %2",
		"%10 = OpTypeFunction %1 %2",
		"%11 = OpConstantComposite %5 %4 %4",
		"%12 = OpUndef %6",
		"%30 = OpFunction %1 None %10",
		"%31 = OpLabel",
		"%32 = OpVariable %9 Function",
		"%33 = OpFunctionCall %1 %30 %4",
		"%34 = OpLoad %2 %32",
		"OpReturnValue %34",
		"OpFunctionEnd",
	)
}

// P18.2: places: 0, the last one, the one behind it; what is not asked; what is no place.
func TestPlaces(t *testing.T) {
	m := all()
	if s := Check(m); s != typed(21) {
		t.Errorf("Check: %v", s)
	}
	for at := range m.Insts {
		if is, s := Fits(m, at); is != (at != 21 && at != 26) || s != (api.Spot{}) {
			t.Errorf("Fits of %d: %v, %v", at, is, s)
		}
	}
	for _, at := range noPlaces(m) {
		if is, s := Fits(m, at); is || s != spot(api.ErrRange, 0) {
			t.Errorf("Fits of %d: %v, %v", at, is, s)
		}
	}
}

// P18.1, P18.2: of a module without functions nothing is asked; of one of a single instruction its only place is 0.
func TestWithoutFunctions(t *testing.T) {
	m := lines("OpMemoryModel Logical Simple", `OpName %1 "a"`, "%1 = OpTypeBool", "%2 = OpTypePointer Private %1", "%3 = OpConstantTrue %1", "%4 = OpVariable %2 Private %3", "%5 = OpUndef %1")
	for _, n := range []int{1, len(m.Insts)} {
		part := m
		part.Insts = m.Insts[:n]
		if s := Check(part); s != (api.Spot{}) {
			t.Errorf("Check: %v, of %v", s, part)
		}
		for at := range n {
			if is, s := Fits(part, at); !is || s != (api.Spot{}) {
				t.Errorf("Fits of %d: %v, %v", at, is, s)
			}
		}
		for _, at := range noPlaces(part) {
			if is, s := Fits(part, at); is || s != spot(api.ErrRange, 0) {
				t.Errorf("Fits of %d: %v, %v", at, is, s)
			}
		}
	}
}

// noPlaces are numbers that are no places of a module.
func noPlaces(m api.Module) []int {
	n := len(m.Insts)
	return []int{-1, -2, -n, math.MinInt32, math.MinInt, n, n + 1, 2 * n, 1 << 31, 1 << 32, 1<<32 + 5, math.MaxInt}
}

// P18.3: ids: 0, 1, the last one below the bound, the bound; ids without a type, and such as nothing makes.
func TestIds(t *testing.T) {
	m := all()
	types := map[uint32]uint32{4: 2, 8: 7, 11: 5, 12: 6, 32: 9, 33: 1, 34: 2}
	for id := range uint32(40) {
		want, fault := types[id], api.Spot{}
		switch {
		case id == 0:
			fault = spot(api.ErrRange, 0)
		case want == 0:
			fault = spot(api.ErrNone, 0)
		}
		if typeId, s := Type(m, id); typeId != want || s != fault {
			t.Errorf("Type of %d: %d, %v; not %d, %v", id, typeId, s, want, fault)
		}
	}
	for _, id := range []uint32{0, 40, 41, 80, api.MaxBound, math.MaxInt32, 1 << 31, math.MaxUint32} {
		if typeId, s := Type(m, id); typeId != 0 || s != spot(api.ErrRange, 0) {
			t.Errorf("Type of %d: %d, %v", id, typeId, s)
		}
	}
	// With a greater bound those ids are none that something makes.
	m.Bound = 82
	for _, id := range []uint32{40, 41, 80, 81} {
		if typeId, s := Type(m, id); typeId != 0 || s != spot(api.ErrNone, 0) {
			t.Errorf("Type of %d: %d, %v", id, typeId, s)
		}
	}
	if _, s := Type(m, 82); s != spot(api.ErrRange, 0) {
		t.Errorf("Type of the bound: %v", s)
	}
	// The first and the last id may have a type.
	m = lines("OpMemoryModel Logical Simple", "%2 = OpTypeBool", "%39 = OpConstantTrue %2", "%1 = OpUndef %2")
	for _, id := range []uint32{1, 39} {
		if typeId, s := Type(m, id); typeId != 2 || s != (api.Spot{}) {
			t.Errorf("Type of %d: %d, %v", id, typeId, s)
		}
	}
}

// P18.3: a type is told as it stands, whether it is one or not; of a parameter, a phi, a pair and a call, too.
func TestTypeOfWhatever(t *testing.T) {
	r := host("OpPhi %I2I2 %vI %l1")
	for name, want := range map[string]string{"new": "I2I2", "gIPIa": "PI", "gVIUb": "U", "call": "V", "pD": "PD", "nS": "NS", "i-1": "I", "true": "B", "nullU": "U", "vAA": "AA"} {
		if typeId, s := Type(r.Module, r.named[name]); typeId != r.named[want] || s != (api.Spot{}) {
			t.Errorf("Type of %s: %d, %v", name, typeId, s)
		}
	}
	for _, name := range []string{"gV", "main", "l1", "gV1", "str", "V", "I", "fV", "PS"} {
		if typeId, s := Type(r.Module, r.named[name]); typeId != 0 || s != spot(api.ErrNone, 0) {
			t.Errorf("Type of %s: %d, %v", name, typeId, s)
		}
	}
	for _, its := range []string{"l1", "vI", "main", "str", "new"} {
		r := host("OpCopyObject %" + its + " %vI")
		if typeId, s := Type(r.Module, r.named["new"]); typeId != r.named[its] || s != (api.Spot{}) {
			t.Errorf("Type of what is of %s: %d, %v", its, typeId, s)
		}
	}
}

// P18.1: of several instructions that do not fit the first one is told, in whatever function, block and place it is: each choice of some of these lines, the other ones standing as they fit.
func TestSeveral(t *testing.T) {
	front := []string{"OpMemoryModel Logical Simple", "%1 = OpTypeVoid", "%2 = OpTypeInt 32 0", "%3 = OpConstant %2 1", "%4 = OpTypePointer Function %2", "%5 = OpTypeFunction %1"}
	body := [][2]string{
		{"%6 = OpFunction %1 None %5", "%6 = OpFunction %1 None %4"},
		{"%7 = OpLabel", ""},
		{"%8 = OpVariable %4 Function %3", "%8 = OpVariable %4 Function %2"},
		{"%9 = OpIAdd %2 %3 %3", "%9 = OpIAdd %2 %3 %7"},
		{"OpBranch %10", ""},
		{"%10 = OpLabel", ""},
		{"%11 = OpPhi %2 %3 %7", "%11 = OpPhi %2 %7 %7"},
		{"OpReturn", "OpReturnValue %3"},
		{"OpFunctionEnd", ""},
		{"%12 = OpFunction %2 None %13", "%12 = OpFunction %2 None %5"},
		{"%14 = OpLabel", ""},
		{"OpStore %8 %11", "OpStore %11 %8"},
		{"OpReturnValue %3", "OpReturnValue %8"},
		{"OpFunctionEnd", ""},
	}
	front = append(front, "%13 = OpTypeFunction %2")
	var may []int
	for k, l := range body {
		if l[1] != "" {
			may = append(may, k)
		}
	}
	for bits := range 1 << len(may) {
		l, want := slices.Clone(front), api.Spot{}
		for k, line := range body {
			n := slices.Index(may, k)
			if n < 0 || bits>>n&1 == 0 {
				l = append(l, line[0])
				continue
			}
			if l = append(l, line[1]); want.Err == api.OK {
				want = typed(len(front) + k)
			}
		}
		if s := Check(lines(l...)); s != want {
			t.Errorf("Check: %v; not %v, of %v", s, want, l)
		}
	}
}

// P18.1: what no way leads to is asked as well.
func TestWithoutAWay(t *testing.T) {
	m := lines("OpMemoryModel Logical Simple", "%1 = OpTypeVoid", "%2 = OpTypeFunction %1", "%3 = OpFunction %1 None %2", "%4 = OpLabel", "OpReturn", "%5 = OpLabel", "%6 = OpIAdd %1 %4 %4", "OpReturn", "OpFunctionEnd")
	if s := Check(m); s != typed(7) {
		t.Errorf("Check: %v", s)
	}
}

// R8: what is wrong with the module itself goes ahead of all else, in each of the three calls.
func TestConstsFirst(t *testing.T) {
	front := []string{"OpMemoryModel Logical Simple", "%1 = OpTypeVoid", "%2 = OpTypeInt 32 0", "%3 = OpConstant %2 1", "%4 = OpTypePointer Private %2", "%5 = OpTypeFunction %1"}
	end := []string{"%6 = OpFunction %1 None %1", "%7 = OpLabel", "OpReturnValue %1", "OpFunctionEnd"}
	module := func(line string) api.Module { return lines(slices.Concat(front, []string{line}, end)...) }
	short := module("%8 = OpTypeBool")
	short.Insts = short.Insts[:len(short.Insts)-1]
	bare := module("%8 = OpTypeBool")
	bare.Bound = 0
	for _, c := range []struct {
		m    api.Module
		want api.Spot
	}{
		{api.Module{}, spot(api.ErrBound, 0)},
		{bare, spot(api.ErrBound, 0)},
		{api.Module{Bound: 40}, spot(api.ErrOpen, 0)},
		{short, spot(api.ErrOpen, len(short.Insts))},
		{module("%8 = OpLabel"), spot(api.ErrOrder, 6)},
		{module("%1 = OpTypeBool"), spot(api.ErrTwice, 6)},
		{module("%8 = OpTypeStruct %9"), spot(api.ErrUnknown, 6)},
		{module("%8 = OpConstantNull %6"), spot(api.ErrAhead, 6)},
		{module("%8 = OpTypeInt 16 0"), spot(api.ErrSize, 6)},
		{module("%8 = OpTypeVector %1 2"), spot(api.ErrNoType, 6)},
		{module("%8 = OpTypeVoid"), spot(api.ErrSame, 6)},
		{module("%8 = OpConstantTrue %2"), spot(api.ErrNoType, 6)},
		{module("%8 = OpVariable %4 Private %2"), spot(api.ErrNoConst, 6)},
		{module("%8 = OpVariable %4 Output"), spot(api.ErrStore, 6)},
		{module("%8 = OpConstantComposite %2 %3"), spot(api.ErrNoType, 6)},
	} {
		if _, s := consts.New(c.m); s != c.want {
			t.Fatalf("consts.New: %v; not %v", s, c.want)
		}
		if s := Check(c.m); s != c.want {
			t.Errorf("Check: %v; not %v", s, c.want)
		}
		for _, at := range []int{0, -1, 7, 1000, math.MaxInt} {
			if is, s := Fits(c.m, at); is || s != c.want {
				t.Errorf("Fits of %d: %v, %v; not %v", at, is, s, c.want)
			}
		}
		for _, id := range []uint32{0, 1, 3, 39, 40, math.MaxUint32} {
			if typeId, s := Type(c.m, id); typeId != 0 || s != c.want {
				t.Errorf("Type of %d: %d, %v; not %v", id, typeId, s, c.want)
			}
		}
	}
	if s := Check(module("%8 = OpTypeBool")); s != typed(7) {
		t.Errorf("Check: %v", s)
	}
}
