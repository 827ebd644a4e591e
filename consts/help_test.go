package consts

import (
	"math"
	"slices"
	"strconv"
	"strings"
	"testing"

	"intaglio/api"
	"intaglio/asm"
)

// spot is a fault at a place.
func spot(e api.Errno, at int) api.Spot { return api.Spot{Err: e, At: at} }

// anId, aNumber, anEnum, aText: arguments.
func anId(n uint32) api.Arg { return api.Arg{Kind: api.ArgId, N: n} }

func aNumber(n uint32) api.Arg { return api.Arg{Kind: api.ArgNumber, N: n} }

func anEnum(n uint32) api.Arg { return api.Arg{Kind: api.ArgEnum, N: n} }

func aText(s string) api.Arg { return api.Arg{Kind: api.ArgText, S: s} }

// idsOf are arguments, all of them ids.
func idsOf(l ...uint32) []api.Arg {
	var args []api.Arg
	for _, id := range l {
		args = append(args, anId(id))
	}
	return args
}

// inst is an instruction.
func inst(op uint16, typeId, result uint32, l ...api.Arg) api.Inst {
	return api.Inst{Op: op, Type: typeId, Result: result, Args: l}
}

// module is a module.
func module(bound uint32, l ...api.Inst) api.Module {
	return api.Module{Generator: 7, Bound: bound, Insts: l}
}

// model is an OpMemoryModel.
func model() api.Inst { return inst(14, 0, 0, anEnum(0), anEnum(0)) }

// read is the module of lines, by a bound.
func read(bound int, lines ...string) api.Module {
	m, s := asm.Parse("module 7 " + strconv.Itoa(bound) + "\n" + strings.Join(lines, "\n"))
	if s.Err != api.OK {
		panic("no module's lines: " + strings.Join(lines, "; "))
	}
	return m
}

// modelled is the module of an OpMemoryModel and of lines behind it.
func modelled(lines ...string) api.Module {
	return read(99, append([]string{"OpMemoryModel Logical Simple"}, lines...)...)
}

// front are the lines that most modules here begin with: types of all kinds (1 to 4, 6 to 17), the number 3 (5), the number 7 (18), what is true (19), a text's id (20).
var front = []string{
	"%1 = OpTypeVoid",
	"%2 = OpTypeBool",
	"%3 = OpTypeInt 32 0",
	"%4 = OpTypeInt 32 1",
	"%5 = OpConstant %3 3",
	"%6 = OpTypeVector %3 2",
	"%7 = OpTypeVector %2 4",
	"%8 = OpTypeArray %4 %5",
	"%9 = OpTypeStruct %2 %6 %8",
	"%10 = OpTypeArray %9 %5",
	"%11 = OpTypePointer Private %6",
	"%12 = OpTypePointer Output %6",
	"%13 = OpTypePointer Input %6",
	"%14 = OpTypePointer Function %6",
	"%15 = OpTypeFunction %1",
	"%16 = OpTypeStruct %3",
	"%17 = OpTypePointer Private %9",
	"%18 = OpConstant %3 7",
	"%19 = OpConstantTrue %2",
}

// fronted is the module of a text's id, of these lines, and of more behind them; next is the place of the first one of more.
func fronted(more ...string) api.Module {
	return modelled(slices.Concat([]string{`%20 = OpString "a"`}, front, more)...)
}

var next = 2 + len(front)

// many has constants of each operation and of each kind of plain type, composites of composites, and variables of each class, with and without a second argument; a function, too, with variables of its own. The ids 50 to 59 are the variables'.
func many() api.Module {
	return fronted(
		"%21 = OpConstantFalse %2",
		"%22 = OpConstant %4 -1",
		"%23 = OpConstant %4 2147483647",
		"%24 = OpConstantComposite %6 %18 %5",
		"%25 = OpConstantNull %6",
		"%50 = OpVariable %11 Private",
		"%51 = OpVariable %11 Private %24",
		"%26 = OpConstantComposite %7 %19 %21 %21 %19",
		"%27 = OpConstantComposite %8 %22 %23 %22",
		"%28 = OpConstantComposite %9 %19 %24 %27",
		"%29 = OpUndef %9",
		"%30 = OpConstantComposite %10 %28 %29 %28",
		"%31 = OpConstantNull %10",
		"%32 = OpUndef %2",
		"%33 = OpUndef %4",
		"%34 = OpConstantNull %2",
		"%35 = OpConstantNull %3",
		"%36 = OpConstant %3 7",
		"%52 = OpVariable %12 Output",
		"%53 = OpVariable %12 Output %25",
		"%54 = OpVariable %13 Input",
		"%37 = OpUndef %6",
		"%38 = OpUndef %7",
		"%39 = OpConstantNull %8",
		"%40 = OpConstantComposite %16 %36",
		"%41 = OpTypeStruct %3",
		"%42 = OpConstantComposite %41 %18",
		"%43 = OpConstantComposite %6 %36 %5",
		"%44 = OpConstantNull %16",
		"%45 = OpUndef %8",
		"%46 = OpUndef %10",
		"%55 = OpVariable %17 Private %28",
		"%56 = OpVariable %17 Private %29",
		"%57 = OpVariable %11 Private %37",
		"%47 = OpConstantFalse %2",
		"%48 = OpConstantTrue %2",
		"%60 = OpFunction %1 None %15",
		"%61 = OpLabel",
		"%62 = OpVariable %14 Function",
		"%63 = OpVariable %14 Function %24",
		"OpReturn",
		"OpFunctionEnd",
	)
}

// pool is the constants of a module that are sound.
func pool(t *testing.T, m api.Module) *Pool {
	t.Helper()
	p, s := New(m)
	if s != (api.Spot{}) || p == nil {
		t.Fatalf("New: %v, of %v", s, m)
	}
	return p
}

// holdFault says whether New answers that fault, and nothing beside it.
func holdFault(t *testing.T, m api.Module, want api.Spot) {
	t.Helper()
	if p, s := New(m); s != want || p != nil {
		t.Errorf("New: %v; not %v, of %v", s, want, m)
	}
}

// holdNext says whether New of the front lines and of more answers that error at the last of these; none, if it is OK.
func holdNext(t *testing.T, e api.Errno, more ...string) {
	t.Helper()
	if e == api.OK {
		pool(t, fronted(more...))
		return
	}
	holdFault(t, fronted(more...), spot(e, next+len(more)-1))
}

// holdValue says whether a constant has that type and these words.
func holdValue(t *testing.T, p *Pool, id, typeId uint32, words ...uint32) {
	t.Helper()
	if got, w, is := p.Value(id); got != typeId || !slices.Equal(w, words) || !is {
		t.Errorf("Value of %d: %d, %v, %v; not %d, %v", id, got, w, is, typeId, words)
	}
}

// holdNoValue says whether an id is no constant's.
func holdNoValue(t *testing.T, p *Pool, id uint32) {
	t.Helper()
	if typeId, w, is := p.Value(id); typeId != 0 || len(w) != 0 || is {
		t.Errorf("Value of %d: %d, %v, %v; not nothing", id, typeId, w, is)
	}
}

// holdVariable says whether a variable has that class, holds that type, and has these first words.
func holdVariable(t *testing.T, p *Pool, id, class, holds uint32, words ...uint32) {
	t.Helper()
	if c, h, w, is := p.Variable(id); c != class || h != holds || !slices.Equal(w, words) || !is {
		t.Errorf("Variable of %d: %d, %d, %v, %v; not %d, %d, %v", id, c, h, w, is, class, holds, words)
	}
}

// holdNoVariable says whether an id is no variable's.
func holdNoVariable(t *testing.T, p *Pool, id uint32) {
	t.Helper()
	if c, h, w, is := p.Variable(id); c != 0 || h != 0 || len(w) != 0 || is {
		t.Errorf("Variable of %d: %d, %d, %v, %v; not nothing", id, c, h, w, is)
	}
}

// holdFound says whether these words of a type are found at a constant; 0: they are not found.
func holdFound(t *testing.T, p *Pool, want, typeId uint32, words ...uint32) {
	t.Helper()
	if id, is := p.Find(typeId, words); id != want || is != (want != 0) {
		t.Errorf("Find of %d, %v: %d, %v; not %d", typeId, words, id, is, want)
	}
}

// noIds are numbers that nothing of the modules here has.
func noIds() []uint32 {
	return []uint32{0, 90, 98, 99, 100, api.MaxBound, math.MaxInt32, 1 << 31, math.MaxUint32}
}

// repeat is the same line's argument so many times, a blank ahead of each.
func repeat(arg string, n int) string { return strings.Repeat(" "+arg, n) }

// same holds modules against each other, field by field.
func same(a, b api.Module) bool {
	return a.Generator == b.Generator && a.Bound == b.Bound && slices.EqualFunc(a.Insts, b.Insts, func(x, y api.Inst) bool {
		return x.Op == y.Op && x.Type == y.Type && x.Result == y.Result && slices.Equal(x.Args, y.Args)
	})
}
