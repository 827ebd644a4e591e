package ids

import (
	"slices"
	"strconv"
	"testing"

	"intaglio/api"
	"intaglio/code"
	"intaglio/layout"
)

// P9.1: the chapter's examples, and the document's fourth.
func TestCheckExamples(t *testing.T) {
	holdCheck(t, modelled(9, "%1 = OpTypeBool", "%1 = OpTypeBool"), spot(api.ErrTwice, 2))
	holdCheck(t, modelled(9, "%1 = OpTypeVector %2 2"), spot(api.ErrUnknown, 1))
	holdCheck(t, modelled(9, `OpName %2 "two"`, "%1 = OpTypeVector %2 2", "%2 = OpTypeBool"), spot(api.ErrAhead, 2))
	holdCheck(t, modelled(9, "%5 = OpTypeBool", "%3 = OpTypeVector %5 2"), api.Spot{})
	holdCheck(t, modelled(9, "%1 = OpTypeVector %1 2"), spot(api.ErrAhead, 1))
}

// P9.1: modules whose ids are sound.
func TestCheckSound(t *testing.T) {
	holdCheck(t, shader(), api.Spot{})
	holdCheck(t, modelled(1), api.Spot{})
	holdCheck(t, modelled(2, "%1 = OpTypeBool"), api.Spot{})
	holdCheck(t, modelled(api.MaxBound), api.Spot{})
	holdCheck(t, modelled(api.MaxBound, "%65535 = OpTypeBool", "%1 = OpTypeVector %65535 4"), api.Spot{})
	// An id that is made, and named by none; named once; named several times by one instruction, and by several.
	holdCheck(t, modelled(9, "%1 = OpTypeBool", "%2 = OpTypeVoid"), api.Spot{})
	holdCheck(t, modelled(9, "%1 = OpTypeBool", "%2 = OpTypeStruct %1 %1 %1", "%3 = OpTypeStruct %1 %2 %1", "%4 = OpTypeStruct"), api.Spot{})
	// What is made in the part 4 is made ahead of the part 7.
	holdCheck(t, modelled(9, `%1 = OpString "a"`, "%2 = OpTypeVector %1 2"), api.Spot{})
}

// function is the lines of a module with a function whose body is these lines, behind the types 1 to 3 (of a truth, of nothing, of the function); the function is 4, its label 5.
func function(lines ...string) api.Module {
	all := []string{"%1 = OpTypeBool", "%2 = OpTypeVoid", "%3 = OpTypeFunction %2", "%4 = OpFunction %2 None %3", "%5 = OpLabel"}
	all = append(all, lines...)
	return modelled(20, append(all, "OpFunctionEnd")...)
}

// bodyAt is the place of the first of these lines.
const bodyAt = 6

// P9.1: the first rule: an id is made at no lesser place, whatever makes it.
func TestCheckTwice(t *testing.T) {
	for _, c := range []struct {
		m  api.Module
		at int
	}{
		{modelled(9, "%1 = OpTypeBool", "%2 = OpTypeVoid", "%1 = OpTypeBool", "%2 = OpTypeVoid"), 3},
		{modelled(9, "%1 = OpTypeBool", "%2 = OpTypeVoid", "%2 = OpTypeVoid", "%1 = OpTypeBool"), 3},
		{modelled(9, "%8 = OpTypeBool", "%8 = OpTypeBool", "%8 = OpTypeBool"), 2},
		{modelled(9, `%1 = OpString "a"`, `%1 = OpString "a"`), 2},
		{modelled(9, `%1 = OpString "a"`, "%1 = OpTypeBool"), 2},
		{function("%1 = OpLoad %1 %1", "OpReturn"), bodyAt},
		{function("%4 = OpLoad %1 %1", "OpReturn"), bodyAt},
		{function("%5 = OpLoad %1 %1", "OpReturn"), bodyAt},
		{function("%6 = OpLoad %1 %1", "%6 = OpLoad %1 %1", "OpReturn"), bodyAt + 1},
		{function("OpReturn", "%5 = OpLabel", "OpReturn"), bodyAt + 1},
		{function("%6 = OpVariable %1 Function", "%6 = OpVariable %1 Function", "OpReturn"), bodyAt + 1},
		{function("OpReturn", "OpFunctionEnd", "%4 = OpFunction %2 None %3", "%6 = OpLabel", "OpReturn"), bodyAt + 2},
		{function("OpReturn", "OpFunctionEnd", "%6 = OpFunction %2 None %3", "%5 = OpFunctionParameter %1", "%7 = OpLabel", "OpReturn"), bodyAt + 3},
		{function("OpReturn", "OpFunctionEnd", "%6 = OpFunction %2 None %3", "%5 = OpLabel", "OpReturn"), bodyAt + 3},
	} {
		holdCheck(t, c.m, spot(api.ErrTwice, c.at))
	}
}

// P9.1: the second rule: each id that is named is made, in whatever part it is named, as a type or as an argument.
func TestCheckUnknown(t *testing.T) {
	for _, line := range []string{
		`OpEntryPoint Vertex %9 "a"`, `OpEntryPoint Vertex %1 "a" %9`, `OpEntryPoint Vertex %1 "a" %1 %1 %9 %1`, "OpExecutionMode %9 OriginUpperLeft",
		`OpName %9 "a"`, `OpMemberName %9 1 "a"`, "OpDecorate %9 Flat", "OpDecorate %9 Location 1",
	} {
		holdCheck(t, modelled(20, line, "%1 = OpTypeBool"), spot(api.ErrUnknown, 1))
	}
	for _, line := range []string{
		"%2 = OpUndef %9", "%2 = OpTypeVector %9 2", "%2 = OpTypeArray %9 %1", "%2 = OpTypeArray %1 %9", "%2 = OpTypeStruct %1 %1 %9",
		"%2 = OpTypePointer Input %9", "%2 = OpTypeFunction %9 %1", "%2 = OpTypeFunction %1 %9", "%2 = OpConstantTrue %9", "%2 = OpConstant %9 1",
		"%2 = OpConstantComposite %1 %9", "%2 = OpConstantComposite %9 %1", "%2 = OpVariable %9 Private", "%2 = OpVariable %1 Private %9",
	} {
		holdCheck(t, modelled(20, "%1 = OpTypeBool", line), spot(api.ErrUnknown, 2))
	}
	for _, line := range []string{
		"%6 = OpVariable %9 Function", "%6 = OpVariable %1 Function %9", "%6 = OpLoad %9 %1", "%6 = OpLoad %1 %9", "OpStore %9 %1", "OpStore %1 %9",
		"%6 = OpFunctionCall %1 %9", "%6 = OpFunctionCall %1 %4 %1 %9", "%6 = OpSelect %1 %1 %1 %9", "%6 = OpBitFieldInsert %1 %1 %1 %1 %9",
		"%6 = OpCompositeExtract %1 %9 0", "%6 = OpVectorShuffle %1 %1 %9 0",
	} {
		holdCheck(t, function(line, "OpReturn"), spot(api.ErrUnknown, bodyAt))
	}
	for _, line := range []string{"OpBranch %9", "OpBranchConditional %9 %5 %5", "OpBranchConditional %1 %5 %9", "OpSwitch %1 %9", "OpSwitch %1 %5 1 %5 2 %9", "OpReturnValue %9"} {
		holdCheck(t, function(line), spot(api.ErrUnknown, bodyAt))
	}
	holdCheck(t, function("OpLoopMerge %5 %9 None", "OpBranch %5"), spot(api.ErrUnknown, bodyAt))
	holdCheck(t, function("OpSelectionMerge %9 None", "OpSwitch %1 %5"), spot(api.ErrUnknown, bodyAt))
	holdCheck(t, function("OpReturn", "%6 = OpLabel", "%7 = OpPhi %1 %1 %9", "OpReturn"), spot(api.ErrUnknown, bodyAt+2))
	holdCheck(t, modelled(20, "%1 = OpTypeBool", "%2 = OpFunction %9 None %1", "%3 = OpLabel", "OpReturn", "OpFunctionEnd"), spot(api.ErrUnknown, 2))
	holdCheck(t, modelled(20, "%1 = OpTypeBool", "%2 = OpFunction %1 None %9", "%3 = OpLabel", "OpReturn", "OpFunctionEnd"), spot(api.ErrUnknown, 2))
}

// P9.1: numbers, enumerants and the bound are no ids that must be made.
func TestCheckNumbersAreNoIds(t *testing.T) {
	holdCheck(t, modelled(20, "OpSource GLSL 9", "%1 = OpTypeInt 9 9", "%2 = OpConstant %1 9", "%3 = OpTypeVector %1 9"), api.Spot{})
	holdCheck(t, function("%6 = OpVectorShuffle %1 %1 %1 9 8 7", "%7 = OpCompositeExtract %1 %6 0", "OpSwitch %1 %5 9 %5 0 %5"), api.Spot{})
}

// P9.1: the third rule: an id that is named in the part 7 is made at a lesser place.
func TestCheckAhead(t *testing.T) {
	for _, line := range []string{
		"%2 = OpUndef %9", "%2 = OpTypeVector %9 2", "%2 = OpTypeArray %9 %1", "%2 = OpTypeArray %1 %9", "%2 = OpTypeStruct %1 %1 %9",
		"%2 = OpTypePointer Input %9", "%2 = OpTypeFunction %9 %1", "%2 = OpTypeFunction %1 %9", "%2 = OpConstantTrue %9", "%2 = OpConstantFalse %9",
		"%2 = OpConstant %9 1", "%2 = OpConstantComposite %1 %9", "%2 = OpConstantComposite %9 %1", "%2 = OpConstantNull %9",
		"%2 = OpVariable %9 Private", "%2 = OpVariable %9 Input", "%2 = OpVariable %9 Output", "%2 = OpVariable %1 Private %9",
	} {
		ahead := modelled(20, "%1 = OpTypeBool", line, "%9 = OpTypeVoid")
		holdCheck(t, ahead, spot(api.ErrAhead, 2))
		far := modelled(20, "%1 = OpTypeBool", line, "%3 = OpTypeVoid", "%4 = OpTypeVoid", "%9 = OpTypeVoid")
		holdCheck(t, far, spot(api.ErrAhead, 2))
		behind := modelled(20, "%1 = OpTypeBool", "%9 = OpTypeVoid", line)
		holdCheck(t, behind, api.Spot{})
		// Named at its own place it is not made at a lesser one.
		own := apart(ahead)
		own.Insts[2].Result, own.Insts[3].Result = 9, 2
		holdCheck(t, own, spot(api.ErrAhead, 2))
		// What a function makes is made behind.
		inFunction := modelled(20, "%1 = OpTypeBool", line, "%9 = OpFunction %1 None %1", "%3 = OpLabel", "OpReturn", "OpFunctionEnd")
		holdCheck(t, inFunction, spot(api.ErrAhead, 2))
	}
}

// P9.1: in all other parts an id may be named ahead of its making, and at its own place.
func TestCheckAheadElsewhere(t *testing.T) {
	for _, line := range []string{`OpEntryPoint Vertex %9 "a" %9`, "OpExecutionMode %9 OriginUpperLeft", `OpName %9 "a"`, `OpMemberName %9 1 "a"`, "OpDecorate %9 Flat"} {
		holdCheck(t, modelled(20, line, "%1 = OpTypeBool", "%9 = OpTypeBool"), api.Spot{})
	}
	for _, line := range []string{
		"%6 = OpVariable %9 Function", "%6 = OpVariable %1 Function %9", "%6 = OpVariable %6 Function %6", "%6 = OpLoad %9 %1", "%6 = OpLoad %1 %9", "%6 = OpLoad %6 %6",
		"OpStore %9 %9", "%6 = OpFunctionCall %1 %9 %9", "%6 = OpIAdd %6 %9 %6",
	} {
		holdCheck(t, function(line, "%9 = OpLoad %1 %1", "OpReturn"), api.Spot{})
	}
	holdCheck(t, function("OpBranch %9", "%9 = OpLabel", "%10 = OpPhi %1 %10 %9 %11 %5", "%11 = OpLoad %1 %1", "OpBranch %9"), api.Spot{})
	holdCheck(t, function("%6 = OpFunctionCall %1 %9", "OpReturn", "OpFunctionEnd", "%9 = OpFunction %1 None %3", "%10 = OpLabel", "OpReturn"), api.Spot{})
	holdCheck(t, modelled(20, "%1 = OpFunction %3 None %4", "%3 = OpFunctionParameter %4", "%4 = OpLabel", "OpReturn", "OpFunctionEnd"), api.Spot{})
}

// P9.1, R9: of several faults the one at the least place, and at one place the first of the three.
func TestCheckFirst(t *testing.T) {
	for _, c := range []struct {
		m    api.Module
		want api.Spot
	}{
		// All three at one place; the first and the second; the first and the third; the second and the third, in both orders.
		{modelled(9, "%1 = OpTypeBool", "%1 = OpTypeStruct %2 %3", "%3 = OpTypeBool"), spot(api.ErrTwice, 2)},
		{modelled(9, "%1 = OpTypeBool", "%1 = OpTypeStruct %2"), spot(api.ErrTwice, 2)},
		{modelled(9, "%1 = OpTypeBool", "%1 = OpTypeStruct %3", "%3 = OpTypeBool"), spot(api.ErrTwice, 2)},
		{modelled(9, "%1 = OpTypeStruct %3 %2", "%3 = OpTypeBool"), spot(api.ErrUnknown, 1)},
		{modelled(9, "%1 = OpTypeStruct %2 %3", "%3 = OpTypeBool"), spot(api.ErrUnknown, 1)},
		{modelled(9, "%1 = OpTypeStruct %1 %1 %2"), spot(api.ErrUnknown, 1)},
		{modelled(9, "%1 = OpConstantComposite %3 %2", "%3 = OpTypeBool"), spot(api.ErrUnknown, 1)},
		// Each of the three at a lesser place than another one.
		{modelled(9, "%1 = OpTypeBool", "%1 = OpTypeBool", "%2 = OpTypeStruct %8", "%3 = OpTypeStruct %3"), spot(api.ErrTwice, 2)},
		{modelled(9, "%1 = OpTypeBool", "%2 = OpTypeStruct %8", "%1 = OpTypeBool", "%3 = OpTypeStruct %3"), spot(api.ErrUnknown, 2)},
		{modelled(9, "%1 = OpTypeBool", "%3 = OpTypeStruct %3", "%2 = OpTypeStruct %8", "%1 = OpTypeBool"), spot(api.ErrAhead, 2)},
		{modelled(9, `OpName %8 "a"`, "%1 = OpTypeBool", "%1 = OpTypeBool"), spot(api.ErrUnknown, 1)},
		{modelled(9, "%3 = OpTypeStruct %3", "%3 = OpTypeStruct %3"), spot(api.ErrAhead, 1)},
		{modelled(9, "%3 = OpTypeStruct %1", "%1 = OpTypeBool", "%1 = OpTypeBool"), spot(api.ErrAhead, 1)},
		// The least place at which an id is made is what counts.
		{modelled(9, "%1 = OpTypeBool", "%2 = OpTypeStruct %1", "%1 = OpTypeBool"), spot(api.ErrTwice, 3)},
		{function("%6 = OpLoad %9 %1", "%1 = OpLoad %1 %1", "OpReturn"), spot(api.ErrUnknown, bodyAt)},
		{function("%1 = OpLoad %9 %9", "OpReturn"), spot(api.ErrTwice, bodyAt)},
	} {
		holdCheck(t, c.m, c.want)
	}
}

// P9.1, R8: what layout.Check says of a module goes ahead, as it is, whatever its ids are.
func TestCheckAsksLayout(t *testing.T) {
	for _, c := range slices.Concat(badShapes(), badOrders()) {
		if s := layout.Check(c.m); s != c.s {
			t.Fatalf("%s: layout.Check: %v", c.name, s)
		}
		if s := Check(c.m); s != c.s {
			t.Errorf("%s: Check: %v", c.name, s)
		}
		if m, s := Renumber(c.m); s != c.s || !same(m, api.Module{}) {
			t.Errorf("%s: Renumber: %v, %v", c.name, m, s)
		}
	}
}

// P9.1: modules in order made by chance, whose ids are sound, and with other ids.
func TestCheckByChance(t *testing.T) {
	d := dice(91)
	count := map[api.Errno]int{}
	for range 4000 {
		m := d.sound()
		if s := layout.Check(m); s != (api.Spot{}) {
			t.Fatalf("not in order: %v, %v", s, m)
		}
		holdCheck(t, m, api.Spot{})
		x := d.spoiled(m, 3)
		want := saidCheck(x)
		count[want.Err]++
		holdCheck(t, x, want)
	}
	for _, e := range []api.Errno{api.OK, api.ErrTwice, api.ErrUnknown, api.ErrAhead} {
		if count[e] < 100 {
			t.Errorf("%d of the error %d", count[e], e)
		}
	}
}

// P9.1: small modules, all of them: two instructions of the part 7, one ahead and one behind, with all ids.
func TestCheckSmall(t *testing.T) {
	for n := range 3 * 3 * 3 * 3 * 3 * 3 {
		id := func() string {
			s := "%" + strconv.Itoa(1+n%3)
			n /= 3
			return s
		}
		m := modelled(4, "OpName "+id()+` "a"`, id()+" = OpTypeStruct "+id(), id()+" = OpTypeStruct "+id()+" "+id())
		holdCheck(t, m, saidCheck(m))
	}
}

// P9.1: as many words as a module may have, and as many ids.
func TestCheckAtLimit(t *testing.T) {
	l := []api.Inst{model()}
	for id := range uint32(api.MaxBound - 1) {
		l = append(l, inst(20, 0, id+1))
	}
	m := module(7, api.MaxBound, l...)
	holdCheck(t, m, api.Spot{})
	m.Insts = append(m.Insts, inst(30, 0, api.MaxBound-1))
	holdCheck(t, m, spot(api.ErrTwice, api.MaxBound))
	wide := []api.Inst{model(), inst(20, 0, 1)}
	for id := range uint32(15) {
		wide = append(wide, inst(30, 0, id+2, slices.Repeat([]api.Arg{anId(id + 1)}, api.MaxCount-2)...))
	}
	holdCheck(t, module(7, 99, wide...), api.Spot{})
	last := wide[len(wide)-1].Args
	last[len(last)-1].N = 77
	holdCheck(t, module(7, 99, wide...), spot(api.ErrUnknown, len(wide)-1))
	last[len(last)-1].N = 16
	holdCheck(t, module(7, 99, wide...), spot(api.ErrAhead, len(wide)-1))
	last[0].N = 78
	holdCheck(t, module(7, 99, wide...), spot(api.ErrUnknown, len(wide)-1))
	if s := code.Shape(module(7, 99, wide...)); s != (api.Spot{}) {
		t.Fatalf("not of good shape: %v", s)
	}
}
