package types

import (
	"math"
	"slices"
	"strconv"
	"strings"
	"testing"

	"intaglio/api"
	"intaglio/asm"
)

// spot is a fault at a place.
func spot(e api.Errno, at int) api.Spot { return api.Spot{Err: e, At: at} }

// anId, aNumber, anEnum, aText: arguments.
func anId(n uint32) api.Arg { return api.Arg{Kind: api.ArgId, N: n} }

func aNumber(n uint32) api.Arg { return api.Arg{Kind: api.ArgNumber, N: n} }

func anEnum(n uint32) api.Arg { return api.Arg{Kind: api.ArgEnum, N: n} }

func aText(s string) api.Arg { return api.Arg{Kind: api.ArgText, S: s} }

// inst is an instruction.
func inst(op uint16, typeId, result uint32, l ...api.Arg) api.Inst {
	return api.Inst{Op: op, Type: typeId, Result: result, Args: l}
}

// module is a module.
func module(bound uint32, l ...api.Inst) api.Module {
	return api.Module{Generator: 7, Bound: bound, Insts: l}
}

// model is an OpMemoryModel.
func model() api.Inst { return inst(14, 0, 0, anEnum(0), anEnum(0)) }

// read is the module of lines, by a bound.
func read(bound int, lines ...string) api.Module {
	m, s := asm.Parse("module 7 " + strconv.Itoa(bound) + "\n" + strings.Join(lines, "\n"))
	if s.Err != api.OK {
		panic("no module's lines: " + strings.Join(lines, "; "))
	}
	return m
}

// modelled is the module of an OpMemoryModel and of lines behind it.
func modelled(lines ...string) api.Module {
	return read(99, append([]string{"OpMemoryModel Logical Simple"}, lines...)...)
}

// front are the lines that many modules begin with: nothing, truths, numbers without and with a sign (1 to 4), the constant 3 (5).
var front = []string{"%1 = OpTypeVoid", "%2 = OpTypeBool", "%3 = OpTypeInt 32 0", "%4 = OpTypeInt 32 1", "%5 = OpConstant %3 3"}

// fronted is the module of these lines and of more behind them; next is the place of the first one of more.
func fronted(more ...string) api.Module { return modelled(slices.Concat(front, more)...) }

const next = 6

// many are the types of a module with each kind, and types of types. The ids 20 to 29 and 60 to 69 are no types'.
func many() api.Module {
	return read(99,
		"OpCapability Shader",
		"OpMemoryModel Logical GLSL450",
		`%20 = OpString "a note"`,
		`OpName %1 "nothing"`,
		"%1 = OpTypeVoid",
		"%2 = OpTypeBool",
		"%3 = OpTypeInt 32 0",
		"%4 = OpTypeInt 32 1",
		"%21 = OpConstant %3 3",
		"%22 = OpConstant %4 1",
		"%23 = OpConstant %3 4096",
		"%24 = OpConstant %3 7",
		"%6 = OpTypeVector %4 3",
		"%7 = OpTypeArray %6 %21",
		"%8 = OpTypeStruct %4 %7",
		"%9 = OpTypePointer Function %4",
		"%10 = OpTypeFunction %1 %4",
		"%11 = OpTypeVector %2 2",
		"%12 = OpTypeVector %3 4",
		"%13 = OpTypeArray %2 %22",
		"%14 = OpTypeArray %3 %23",
		"%15 = OpTypeStruct %2",
		"%16 = OpTypeStruct %8 %13 %2 %11 %8",
		"%17 = OpTypeArray %16 %24",
		"%25 = OpConstantTrue %2",
		"%18 = OpTypePointer Input %17",
		"%19 = OpTypePointer Output %2",
		"%30 = OpTypePointer Private %14",
		"%31 = OpTypeFunction %17",
		"%32 = OpTypeFunction %1",
		"%33 = OpTypeFunction %2 %18 %16 %4 %4",
		"%34 = OpTypeStruct %4 %7",
		"%35 = OpTypeArray %6 %21",
		"%36 = OpTypePointer Function %34",
		"%37 = OpTypePointer Function %8",
		"%38 = OpTypeVector %3 3",
		"%39 = OpTypeStruct %3 %38",
		"%26 = OpVariable %36 Private",
		"%60 = OpFunction %1 None %32",
		"%61 = OpLabel",
		"OpReturn",
		"OpFunctionEnd",
	)
}

// table is the types of a module that are sound.
func table(t *testing.T, m api.Module) *Table {
	t.Helper()
	x, s := New(m)
	if s != (api.Spot{}) || x == nil {
		t.Fatalf("New: %v, of %v", s, m)
	}
	return x
}

// holdFault says whether New answers that fault, and nothing beside it.
func holdFault(t *testing.T, m api.Module, want api.Spot) {
	t.Helper()
	if x, s := New(m); s != want || x != nil {
		t.Errorf("New: %v, %v; not %v, of %v", x, s, want, m)
	}
}

// holdNext says whether New of the front lines and of more answers that error at the last of these; none, if it is OK.
func holdNext(t *testing.T, e api.Errno, more ...string) {
	t.Helper()
	if e == api.OK {
		table(t, fronted(more...))
		return
	}
	holdFault(t, fronted(more...), spot(e, next+len(more)-1))
}

// noIds are numbers that are no types' ids of the modules here.
func noIds() []uint32 {
	return []uint32{0, 65, 69, 98, 99, 100, api.MaxBound, math.MaxInt32, 1 << 31, math.MaxUint32}
}

// noParts are numbers that are no part's of anything.
func noParts() []int {
	return []int{-1, -2, math.MinInt, math.MinInt32, math.MaxInt32, 1 << 32, 1<<32 + 1, math.MaxInt}
}

// apart is a module with lists of its own.
func apart(m api.Module) api.Module {
	m.Insts = slices.Clone(m.Insts)
	for at := range m.Insts {
		m.Insts[at].Args = slices.Clone(m.Insts[at].Args)
	}
	return m
}

// same holds modules against each other, field by field.
func same(a, b api.Module) bool {
	return a.Generator == b.Generator && a.Bound == b.Bound && slices.EqualFunc(a.Insts, b.Insts, func(x, y api.Inst) bool {
		return x.Op == y.Op && x.Type == y.Type && x.Result == y.Result && slices.Equal(x.Args, y.Args)
	})
}

// repeat is the same line's argument so many times, a blank ahead of each.
func repeat(arg string, n int) string { return strings.Repeat(" "+arg, n) }

// nested are lines of structs in one another, the first one of the id from on, with what as its member: so many of them.
func nested(from int, what string, n int) []string {
	var l []string
	for k := range n {
		id := "%" + strconv.Itoa(from+k)
		l = append(l, id+" = OpTypeStruct "+what)
		what = id
	}
	return l
}
