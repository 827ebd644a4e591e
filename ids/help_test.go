package ids

import (
	"slices"
	"strconv"
	"strings"
	"testing"

	"intaglio/api"
	"intaglio/asm"
	"intaglio/grammar"
)

// spot is a fault at a place.
func spot(e api.Errno, at int) api.Spot { return api.Spot{Err: e, At: at} }

// anId, aNumber, anEnum, aText: arguments.
func anId(n uint32) api.Arg { return api.Arg{Kind: api.ArgId, N: n} }

func aNumber(n uint32) api.Arg { return api.Arg{Kind: api.ArgNumber, N: n} }

func anEnum(n uint32) api.Arg { return api.Arg{Kind: api.ArgEnum, N: n} }

func aText(s string) api.Arg { return api.Arg{Kind: api.ArgText, S: s} }

// inst is an instruction.
func inst(op uint16, typeId, result uint32, l ...api.Arg) api.Inst {
	return api.Inst{Op: op, Type: typeId, Result: result, Args: l}
}

// module is a module.
func module(generator, bound uint32, l ...api.Inst) api.Module {
	return api.Module{Generator: generator, Bound: bound, Insts: l}
}

// model is an OpMemoryModel.
func model() api.Inst { return inst(14, 0, 0, anEnum(0), anEnum(0)) }

// read is the module of the generator 7 of lines, by a bound.
func read(bound int, lines ...string) api.Module {
	m, s := asm.Parse("module 7 " + strconv.Itoa(bound) + "\n" + strings.Join(lines, "\n"))
	if s.Err != api.OK {
		panic("no module's lines: " + strings.Join(lines, "; "))
	}
	return m
}

// modelled is the module of an OpMemoryModel and of lines behind it.
func modelled(bound int, lines ...string) api.Module {
	return read(bound, append([]string{"OpMemoryModel Logical Simple"}, lines...)...)
}

// shader is a module whose ids are sound: with names, decorations, types, constants, variables, two functions, a loop, and ids that are named ahead of their making. The ids 20 and 29 are neither made nor named; 7 is made, and not named.
func shader() api.Module {
	return read(30,
		"OpCapability Shader",
		"OpMemoryModel Logical GLSL450",
		`OpEntryPoint Fragment %10 "main" %9`,
		"OpExecutionMode %10 OriginUpperLeft",
		`%7 = OpString "a note"`,
		`OpName %10 "main"`,
		`OpName %9 "colour"`,
		"OpDecorate %9 Location 0",
		"%1 = OpTypeVoid",
		"%2 = OpTypeBool",
		"%3 = OpTypeInt 32 1",
		"%4 = OpTypeFunction %1",
		"%5 = OpTypeFunction %3 %3 %3",
		"%6 = OpTypePointer Output %3",
		"%8 = OpTypePointer Function %3",
		"%25 = OpConstant %3 0",
		"%26 = OpConstant %3 25",
		"%27 = OpConstantTrue %2",
		"%28 = OpUndef %3",
		"%9 = OpVariable %6 Output",
		"%10 = OpFunction %1 None %4",
		"%11 = OpLabel",
		"%12 = OpVariable %8 Function %25",
		"OpBranch %13",
		"%13 = OpLabel",
		"%14 = OpPhi %3 %25 %11 %15 %16",
		"OpLoopMerge %17 %16 None",
		"OpBranchConditional %27 %16 %17",
		"%16 = OpLabel",
		"%15 = OpFunctionCall %3 %18 %14 %14",
		"OpBranch %13",
		"%17 = OpLabel",
		"OpStore %9 %14",
		"OpStore %12 %28",
		"OpReturn",
		"OpFunctionEnd",
		"%18 = OpFunction %3 None %5",
		"%19 = OpFunctionParameter %3",
		"%21 = OpFunctionParameter %3",
		"%22 = OpLabel",
		"%23 = OpIAdd %3 %19 %21",
		"%24 = OpIMul %3 %23 %26",
		"OpReturnValue %24",
		"OpFunctionEnd",
	)
}

// apart is a module with lists of its own.
func apart(m api.Module) api.Module {
	m.Insts = slices.Clone(m.Insts)
	for at := range m.Insts {
		m.Insts[at].Args = slices.Clone(m.Insts[at].Args)
	}
	return m
}

// same holds modules against each other, field by field.
func same(a, b api.Module) bool {
	return a.Generator == b.Generator && a.Bound == b.Bound && slices.EqualFunc(a.Insts, b.Insts, func(x, y api.Inst) bool {
		return x.Op == y.Op && x.Type == y.Type && x.Result == y.Result && slices.Equal(x.Args, y.Args)
	})
}

// letters are those of an instruction's arguments, of an operation that is one.
func letters(i api.Inst) string {
	f, _ := grammar.Of(i.Op)
	l := f.Fixed
	for len(l) < len(i.Args) {
		l += f.Rest
	}
	return l
}

// idSpots are where ids stand in an instruction of good shape, told by its form: its type's, those of its arguments, its result's (which is the last one, if there is one).
func idSpots(i *api.Inst) (names []*uint32, makes *uint32) {
	f, _ := grammar.Of(i.Op)
	if f.Type {
		names = append(names, &i.Type)
	}
	for at, letter := range []byte(letters(*i)) {
		if letter == 'i' {
			names = append(names, &i.Args[at].N)
		}
	}
	if f.Result {
		makes = &i.Result
	}
	return names, makes
}

// saidMade is what the chapter says of who makes an id, said once more: all places, rising.
func saidMade(m api.Module, id uint32) []int {
	var l []int
	for at := range m.Insts {
		if _, makes := idSpots(&m.Insts[at]); makes != nil && *makes == id {
			l = append(l, at)
		}
	}
	return l
}

// saidFirst is the least of these places; -1, if there is none.
func saidFirst(m api.Module, id uint32) int {
	if l := saidMade(m, id); len(l) > 0 {
		return l[0]
	}
	return -1
}

// saidUses is what the chapter says of who names an id.
func saidUses(m api.Module, id uint32) []int {
	var l []int
	for at := range m.Insts {
		names, _ := idSpots(&m.Insts[at])
		if slices.ContainsFunc(names, func(n *uint32) bool { return *n == id }) {
			l = append(l, at)
		}
	}
	return l
}

// inPartSeven says whether an instruction is of the part 7.
func inPartSeven(i api.Inst) bool {
	f, _ := grammar.Of(i.Op)
	return f.Part == 7 && !(f.Name == "OpVariable" && i.Args[0].N == 7)
}

// saidCheck is what the chapter says of the ids of a module in order: rule by rule, place by place.
func saidCheck(m api.Module) api.Spot {
	for at, i := range m.Insts {
		names, makes := idSpots(&m.Insts[at])
		if makes != nil && saidMade(m, *makes)[0] < at {
			return spot(api.ErrTwice, at)
		}
		for _, n := range names {
			if len(saidMade(m, *n)) == 0 {
				return spot(api.ErrUnknown, at)
			}
		}
		for _, n := range names {
			if inPartSeven(i) && saidMade(m, *n)[0] >= at {
				return spot(api.ErrAhead, at)
			}
		}
	}
	return api.Spot{}
}

// saidRename is a module with to[i] for each id i.
func saidRename(m api.Module, to []uint32) api.Module {
	m = apart(m)
	for at := range m.Insts {
		names, makes := idSpots(&m.Insts[at])
		if makes != nil {
			names = append(names, makes)
		}
		for _, n := range names {
			*n = to[*n]
		}
	}
	return m
}

// saidRenumber is a module whose ids are sound with its ids numbered as they are made.
func saidRenumber(m api.Module) api.Module {
	to := make([]uint32, m.Bound)
	n := uint32(0)
	for at := range m.Insts {
		if _, makes := idSpots(&m.Insts[at]); makes != nil {
			n++
			to[*makes] = n
		}
	}
	m = saidRename(m, to)
	m.Bound = n + 1
	return m
}

// wayBack are the numbers that undo a renaming.
func wayBack(to []uint32) []uint32 {
	back := make([]uint32, len(to))
	for i, n := range to {
		back[n] = uint32(i)
	}
	return back
}

// unchanged are the numbers of a renaming that leaves all ids.
func unchanged(bound uint32) []uint32 {
	to := make([]uint32, bound)
	for i := range to {
		to[i] = uint32(i)
	}
	return to
}

// samples are instructions of all forms, with no row of Rest, with one, and with two; their ids are 1, 2 and so on; numbers and enumerants among them are as small.
func samples() []api.Inst {
	var l []api.Inst
	for f := range grammar.All() {
		for rows := range 3 {
			if f.Rest == "" && rows > 0 || f.Most != 0 && rows > f.Most {
				break
			}
			l = append(l, sampleOf(f, rows))
		}
	}
	return l
}

// sampleBound is a bound of the samples' ids.
const sampleBound = 12

// sampleOf is an instruction of a form.
func sampleOf(f api.Form, rows int) api.Inst {
	i := inst(f.Op, 0, 0)
	if f.Type {
		i.Type = 1
	}
	if f.Result {
		i.Result = 2
	}
	for at, letter := range []byte(f.Fixed + strings.Repeat(f.Rest, rows)) {
		a := api.Arg{Kind: grammar.Kind(letter)}
		switch a.Kind {
		case api.ArgText:
			a.S = "main"
		case api.ArgEnum:
			a.N = greatest(letter)
		default:
			a.N = uint32(3 + at)
		}
		i.Args = append(i.Args, a)
	}
	return i
}

// greatest is the greatest enumerant of a letter.
func greatest(letter byte) uint32 {
	var n uint32
	for x := range grammar.Enums(letter) {
		n = x
	}
	return n
}

// refused is a module with what a layer below says of it.
type refused struct {
	name string
	m    api.Module
	s    api.Spot
}

// badShapes are modules that are not of good shape.
func badShapes() []refused {
	ok, bad, name := inst(20, 0, 1), inst(22, 0, 0), inst(5, 0, 0, anId(1), aText("one"))
	long := inst(30, 0, 1, slices.Repeat([]api.Arg{anId(1)}, api.MaxCount-1)...)
	full := slices.Repeat([]api.Inst{inst(253, 0, 0)}, api.MaxWords-5)
	return []refused{
		{"no bound", module(7, 0), spot(api.ErrBound, 0)},
		{"no bound, with instructions", module(7, 0, name, ok), spot(api.ErrBound, 0)},
		{"a bound above the greatest", module(7, api.MaxBound+1, name, ok), spot(api.ErrBound, 0)},
		{"a huge bound", module(7, 1<<32-1, name, ok), spot(api.ErrBound, 0)},
		{"no operation", module(7, 9, name, ok, bad), spot(api.ErrOp, 2)},
		{"the first of two", module(7, 9, name, inst(248, 0, 0), bad), spot(api.ErrResult, 1)},
		{"a type that lacks", module(7, 9, name, ok, inst(1, 0, 2)), spot(api.ErrType, 2)},
		{"a type that is too much", module(7, 9, name, ok, inst(253, 1, 0)), spot(api.ErrType, 2)},
		{"a result that is too much", module(7, 9, name, inst(253, 0, 1)), spot(api.ErrResult, 1)},
		{"an argument that lacks", module(7, 9, name, ok, inst(5, 0, 0, anId(1))), spot(api.ErrOperand, 2)},
		{"an OpName without arguments", module(7, 9, inst(5, 0, 0), name), spot(api.ErrOperand, 0)},
		{"an argument that is too much", module(7, 9, name, ok, inst(253, 0, 0, anId(1))), spot(api.ErrOperand, 2)},
		{"an argument of another kind", module(7, 9, name, ok, inst(249, 0, 0, aNumber(1))), spot(api.ErrOperand, 2)},
		{"an id that is 0", module(7, 9, name, ok, inst(249, 0, 0, anId(0))), spot(api.ErrId, 2)},
		{"an argument that is the bound", module(7, 9, name, ok, inst(249, 0, 0, anId(9))), spot(api.ErrId, 2)},
		{"a type that is the bound", module(7, 9, name, ok, inst(1, 9, 2)), spot(api.ErrId, 2)},
		{"a result that is the bound", module(7, 9, name, ok, inst(20, 0, 9)), spot(api.ErrId, 2)},
		{"a huge id", module(7, api.MaxBound, name, ok, inst(249, 0, 0, anId(1<<32-1))), spot(api.ErrId, 2)},
		{"an id by the least bound", module(7, 1, inst(20, 0, 1)), spot(api.ErrId, 0)},
		{"an enumerant", module(7, 9, name, ok, inst(17, 0, 0, anEnum(2))), spot(api.ErrEnum, 2)},
		{"a text with a byte 0", module(7, 9, name, ok, inst(7, 0, 2, aText("a\x00"))), spot(api.ErrNul, 2)},
		{"too many words of one", module(7, 9, name, long), spot(api.ErrCount, 1)},
		{"too many words of all", module(7, 9, append([]api.Inst{name}, full...)...), spot(api.ErrLarge, len(full)-2)},
	}
}

// badOrders are modules of good shape that are not in order. All of them name and make ids that would be refused, too.
func badOrders() []refused {
	return []refused{
		{"no instructions", read(9), spot(api.ErrOpen, 0)},
		{"no OpMemoryModel", read(9, "OpCapability Shader"), spot(api.ErrOpen, 1)},
		{"types alone", read(9, "%1 = OpTypeBool", "%1 = OpTypeBool"), spot(api.ErrOrder, 0)},
		{"two of OpMemoryModel", modelled(9, "OpMemoryModel Logical Simple", "%1 = OpTypeVector %2 2"), spot(api.ErrOrder, 1)},
		{"a capability behind", modelled(9, "OpCapability Shader"), spot(api.ErrOrder, 1)},
		{"a name behind a type", modelled(9, "%1 = OpTypeVector %1 2", `OpName %1 "a"`), spot(api.ErrOrder, 2)},
		{"a name behind ids that are made twice", modelled(9, "%1 = OpTypeBool", "%1 = OpTypeBool", `OpName %3 "a"`), spot(api.ErrOrder, 3)},
		{"a function that does not end", modelled(9, "%1 = OpFunction %2 None %3", "%4 = OpLabel", "OpReturn"), spot(api.ErrOpen, 4)},
		{"a function without blocks", modelled(9, "%1 = OpFunction %2 None %3", "OpFunctionEnd"), spot(api.ErrOrder, 2)},
		{"a phi in the first block", modelled(9, "%1 = OpFunction %2 None %3", "%4 = OpLabel", "%4 = OpPhi %2", "OpReturn", "OpFunctionEnd"), spot(api.ErrOrder, 3)},
		{"a type in a function", modelled(9, "%1 = OpFunction %2 None %3", "%4 = OpLabel", "%2 = OpTypeVoid"), spot(api.ErrOrder, 3)},
		{"a branch that does not choose", modelled(9, "%1 = OpFunction %2 None %3", "%4 = OpLabel", "OpSelectionMerge %4 None", "OpBranch %4"), spot(api.ErrOrder, 4)},
	}
}

// holdCheck says whether Check is that spot, and Renumber too, if it is a fault.
func holdCheck(t *testing.T, m api.Module, want api.Spot) {
	t.Helper()
	if s := Check(m); s != want {
		t.Errorf("Check: %v; not %v, of %v", s, want, m)
	}
	r, s := Renumber(m)
	if s != want {
		t.Errorf("Renumber: %v; not %v", s, want)
	}
	if want.Err != api.OK && !same(r, api.Module{}) {
		t.Errorf("Renumber: a module beside %v: %v", s, r)
	}
}
