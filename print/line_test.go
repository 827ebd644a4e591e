package print

import (
	"math"
	"slices"
	"strconv"
	"strings"
	"testing"

	"intaglio/api"
	"intaglio/code"
	"intaglio/grammar"
)

// P8.1: the chapter's examples.
func TestLineExamples(t *testing.T) {
	holdLine(t, inst(128, 1, 2, anId(3), anId(4)), 9, "%2 = OpIAdd %1 %3 %4")
	holdLine(t, inst(5, 0, 0, anId(3), aText(`a"`)), 9, `OpName %3 "a\""`)
	holdLine(t, inst(253, 0, 0), 9, "OpReturn")
	holdLine(t, inst(15, 0, 0, anEnum(4), anId(4), aText("main"), anId(7)), 9, `OpEntryPoint Fragment %4 "main" %7`)
	holdLine(t, inst(21, 0, 5, aNumber(32), aNumber(1)), 9, "%5 = OpTypeInt 32 1")
	holdLine(t, inst(59, 1, 2, anEnum(7)), 9, "%2 = OpVariable %1 Function")
	holdFault(t, inst(128, 0, 2, anId(3), anId(4)), 9, api.ErrType)
	holdFault(t, inst(128, 1, 2, anId(3), anId(9)), 9, api.ErrId)
}

// P8.1: lines of all letters, written out.
func TestLine(t *testing.T) {
	for want, i := range map[string]api.Inst{
		"%2 = OpUndef %1":                                   inst(1, 1, 2),
		"OpSource GLSL 450":                                 inst(3, 0, 0, anEnum(2), aNumber(450)),
		`OpMemberName %3 0 "x"`:                             inst(6, 0, 0, anId(3), aNumber(0), aText("x")),
		`%8 = OpString "a b"`:                               inst(7, 0, 8, aText("a b")),
		"OpMemoryModel Logical GLSL450":                     inst(14, 0, 0, anEnum(0), anEnum(1)),
		"OpExecutionMode %4 OriginUpperLeft":                inst(16, 0, 0, anId(4), anEnum(7)),
		"OpCapability Shader":                               inst(17, 0, 0, anEnum(1)),
		"%1 = OpTypeVoid":                                   inst(19, 0, 1),
		"%3 = OpTypePointer Output %2":                      inst(32, 0, 3, anEnum(3), anId(2)),
		"%3 = OpTypeFunction %1 %2 %2":                      inst(33, 0, 3, anId(1), anId(2), anId(2)),
		"%4 = OpConstant %2 4294967295":                     inst(43, 2, 4, aNumber(math.MaxUint32)),
		"%5 = OpFunction %1 DontInline %3":                  inst(54, 1, 5, anEnum(2), anId(3)),
		"OpFunctionEnd":                                     inst(56, 0, 0),
		"OpStore %1 %2":                                     inst(62, 0, 0, anId(1), anId(2)),
		"OpDecorate %7 Location 3":                          inst(71, 0, 0, anId(7), anEnum(30), aNumber(3)),
		"OpDecorate %7 Flat":                                inst(71, 0, 0, anId(7), anEnum(14)),
		"%6 = OpVectorShuffle %2 %3 %4 0 4294967295 1":      inst(79, 2, 6, anId(3), anId(4), aNumber(0), aNumber(math.MaxUint32), aNumber(1)),
		"%6 = OpPhi %2 %3 %4 %5 %7":                         inst(245, 2, 6, anId(3), anId(4), anId(5), anId(7)),
		"OpLoopMerge %3 %4 DontUnroll":                      inst(246, 0, 0, anId(3), anId(4), anEnum(2)),
		"OpSelectionMerge %3 Flatten":                       inst(247, 0, 0, anId(3), anEnum(1)),
		"%8 = OpLabel":                                      inst(248, 0, 8),
		"OpBranchConditional %1 %2 %3":                      inst(250, 0, 0, anId(1), anId(2), anId(3)),
		"OpSwitch %1 %2 7 %3 4294967289 %4":                 inst(251, 0, 0, anId(1), anId(2), aNumber(7), anId(3), aNumber(math.MaxUint32-6), anId(4)),
		"%8 = OpBitFieldInsert %1 %2 %3 %4 %5":              inst(201, 1, 8, anId(2), anId(3), anId(4), anId(5)),
		"OpEntryPoint Vertex %4 \"\"":                       inst(15, 0, 0, anEnum(0), anId(4), aText("")),
		"OpEntryPoint Vertex %4 \"%1 = ; \\\\\" %1 %1":      inst(15, 0, 0, anEnum(0), anId(4), aText(`%1 = ; \`), anId(1), anId(1)),
		"%8 = OpVectorInsertDynamic %8 %8 %8 %8":            inst(78, 8, 8, anId(8), anId(8), anId(8)),
		"%1 = OpCompositeExtract %2 %3 10 100 4000000000 0": inst(81, 2, 1, anId(3), aNumber(10), aNumber(100), aNumber(4000000000), aNumber(0)),
	} {
		holdLine(t, i, 9, want)
	}
}

// P8.1: every enumerant, written out.
func TestLineEnumerants(t *testing.T) {
	names := map[uint16]map[uint32]string{
		17:  {0: "OpCapability Matrix", 1: "OpCapability Shader"},
		15:  {0: `OpEntryPoint Vertex %1 "m"`, 4: `OpEntryPoint Fragment %1 "m"`},
		16:  {7: "OpExecutionMode %1 OriginUpperLeft"},
		3:   {0: "OpSource Unknown 2", 1: "OpSource ESSL 2", 2: "OpSource GLSL 2"},
		59:  {1: "%1 = OpVariable %1 Input", 3: "%1 = OpVariable %1 Output", 6: "%1 = OpVariable %1 Private", 7: "%1 = OpVariable %1 Function"},
		71:  {0: "OpDecorate %1 RelaxedPrecision", 11: "OpDecorate %1 BuiltIn", 14: "OpDecorate %1 Flat", 30: "OpDecorate %1 Location"},
		54:  {0: "%1 = OpFunction %1 None %1", 1: "%1 = OpFunction %1 Inline %1", 2: "%1 = OpFunction %1 DontInline %1", 4: "%1 = OpFunction %1 Pure %1", 8: "%1 = OpFunction %1 Const %1"},
		247: {0: "OpSelectionMerge %1 None", 1: "OpSelectionMerge %1 Flatten", 2: "OpSelectionMerge %1 DontFlatten"},
		246: {0: "OpLoopMerge %1 %1 None", 1: "OpLoopMerge %1 %1 Unroll", 2: "OpLoopMerge %1 %1 DontUnroll"},
	}
	for op, lines := range names {
		for n := range uint32(40) {
			i := ofOnes(op, n)
			if want, is := lines[n]; is {
				holdLine(t, i, 2, want)
			} else {
				holdFault(t, i, 2, api.ErrEnum)
			}
		}
	}
	holdLine(t, inst(14, 0, 0, anEnum(0), anEnum(0)), 1, "OpMemoryModel Logical Simple")
	holdLine(t, inst(14, 0, 0, anEnum(0), anEnum(1)), 1, "OpMemoryModel Logical GLSL450")
}

// ofOnes is an instruction of an operation whose ids are 1, whose numbers are 2, whose texts are m, with that enumerant.
func ofOnes(op uint16, n uint32) api.Inst {
	f, _ := grammar.Of(op)
	i := sampleOf(f, 0, 0)
	i.Type, i.Result = min(i.Type, 1), min(i.Result, 1)
	for at, a := range i.Args {
		i.Args[at] = map[uint8]api.Arg{api.ArgId: anId(1), api.ArgNumber: aNumber(2), api.ArgText: aText("m"), api.ArgEnum: anEnum(n)}[a.Kind]
	}
	return i
}

// P8.1: instructions of every operation, with no row of Rest and with several, and with every enumerant.
func TestLineEveryForm(t *testing.T) {
	ops := map[uint16]int{}
	for _, i := range samples() {
		ops[i.Op]++
		holdLine(t, i, sampleBound, saidLine(i))
	}
	if len(ops) != 93 {
		t.Errorf("%d operations", len(ops))
	}
	for op := range 1 << 16 {
		if ops[uint16(op)] == 0 {
			holdFault(t, inst(uint16(op), 0, 0), sampleBound, api.ErrOp)
		}
	}
}

// P8.1: numbers are written in plain digits, from 0 to the greatest.
func TestLineNumbers(t *testing.T) {
	for n, want := range map[uint32]string{
		0: "0", 1: "1", 9: "9", 10: "10", 99: "99", 100: "100", 65535: "65535", 65536: "65536",
		1<<31 - 1: "2147483647", 1 << 31: "2147483648", 1<<32 - 2: "4294967294", 1<<32 - 1: "4294967295",
	} {
		holdLine(t, inst(43, 1, 2, aNumber(n)), 3, "%2 = OpConstant %1 "+want)
		holdLine(t, inst(21, 0, 2, aNumber(n), aNumber(n)), 3, "%2 = OpTypeInt "+want+" "+want)
		holdLine(t, inst(71, 0, 0, anId(1), anEnum(30), aNumber(n), aNumber(n)), 3, "OpDecorate %1 Location "+want+" "+want)
	}
}

// P8.1: ids from 1 to the last one below the bound, whatever the bound; as a type, as a result, as an argument.
func TestLineIds(t *testing.T) {
	for _, bound := range []uint32{0, 1, 2, 3, 10, 11, 65535, api.MaxBound, api.MaxBound + 1, 1 << 31, math.MaxUint32} {
		for _, n := range []uint32{0, 1, 2, bound - 2, bound - 1, bound, bound + 1, math.MaxUint32} {
			three := []api.Inst{inst(1, n, 1), inst(1, 1, n), inst(249, 0, 0, anId(n))}
			if n > 0 && n < bound {
				said := "%" + strconv.FormatUint(uint64(n), 10)
				holdLine(t, three[0], bound, "%1 = OpUndef "+said)
				holdLine(t, three[1], bound, said+" = OpUndef %1")
				holdLine(t, three[2], bound, "OpBranch "+said)
				continue
			}
			for at, i := range three {
				_, want := code.Raw(i, bound)
				if want == api.OK {
					t.Errorf("code.Raw of the id %d by %d", n, bound)
				}
				holdFault(t, three[at], bound, want)
			}
		}
	}
}

// P8.1: texts without bytes, of each byte but 0, with quotes and with \; a byte 0 is refused.
func TestLineTexts(t *testing.T) {
	for s, want := range map[string]string{
		"":                     `""`,
		"a":                    `"a"`,
		`"`:                    `"\""`,
		`\`:                    `"\\"`,
		`\x41`:                 `"\\x41"`,
		`""\\`:                 `"\"\"\\\\"`,
		"\n":                   `"\x0a"`,
		"\x01\x1f \x7e\x7f":    `"\x01\x1f ~\x7f"`,
		"\x80\xff":             `"\x80\xff"`,
		"é":                    `"\xc3\xa9"`,
		"; % = \t":             `"; % = \x09"`,
		"OpName %1 \"a\"\nx\r": `"OpName %1 \"a\"\x0ax\x0d"`,
	} {
		holdLine(t, inst(5, 0, 0, anId(1), aText(s)), 2, "OpName %1 "+want)
		holdLine(t, inst(7, 0, 1, aText(s)), 2, "%1 = OpString "+want)
		holdLine(t, inst(15, 0, 0, anEnum(0), anId(1), aText(s), anId(1)), 2, "OpEntryPoint Vertex %1 "+want+" %1")
	}
	holdFault(t, inst(7, 0, 1, aText("\x00")), 2, api.ErrNul)
	for c := 1; c < 256; c++ {
		s := string([]byte{'a', byte(c), 'f', byte(c)})
		holdLine(t, inst(7, 0, 1, aText(s)), 2, "%1 = OpString "+saidQuote(s))
		holdFault(t, inst(7, 0, 1, aText(s+"\x00"+s)), 2, api.ErrNul)
	}
}

// P8.1: arguments that may lack, and arguments that may stand any number of times.
func TestLineRest(t *testing.T) {
	holdLine(t, inst(59, 1, 2, anEnum(6)), 9, "%2 = OpVariable %1 Private")
	holdLine(t, inst(59, 1, 2, anEnum(6), anId(3)), 9, "%2 = OpVariable %1 Private %3")
	holdFault(t, inst(59, 1, 2, anEnum(6), anId(3), anId(3)), 9, api.ErrOperand)
	for many := range 40 {
		var ids, numbers, rows []api.Arg
		for k := range many {
			n := uint32(k%8 + 1)
			ids, numbers = append(ids, anId(n)), append(numbers, aNumber(n))
			rows = append(rows, aNumber(n), anId(n))
		}
		said := func(sign string) string {
			line := ""
			for k := range many {
				line += " " + strings.ReplaceAll(sign, "#", strconv.Itoa(k%8+1))
			}
			return line
		}
		holdLine(t, inst(30, 0, 2, ids...), 9, "%2 = OpTypeStruct"+said("%#"))
		holdLine(t, inst(44, 1, 2, ids...), 9, "%2 = OpConstantComposite %1"+said("%#"))
		holdLine(t, inst(81, 1, 2, append([]api.Arg{anId(4)}, numbers...)...), 9, "%2 = OpCompositeExtract %1 %4"+said("#"))
		holdLine(t, inst(251, 0, 0, append([]api.Arg{anId(4), anId(5)}, rows...)...), 9, "OpSwitch %4 %5"+said("# %#"))
		if many%2 == 0 {
			holdLine(t, inst(245, 1, 2, ids...), 9, "%2 = OpPhi %1"+said("%#"))
		} else {
			holdFault(t, inst(245, 1, 2, ids...), 9, api.ErrOperand)
		}
	}
}

// P8.1: each error of code.Raw.
func TestLineRefuses(t *testing.T) {
	sum := func(l ...api.Arg) api.Inst { return inst(128, 1, 2, l...) }
	for _, c := range []struct {
		e api.Errno
		i api.Inst
	}{
		{api.ErrOp, inst(0, 0, 0)},
		{api.ErrOp, inst(22, 0, 0)},
		{api.ErrOp, inst(65535, 0, 0)},
		{api.ErrOp, inst(2, 1, 2, anId(77))},
		{api.ErrType, inst(128, 0, 2, anId(3), anId(4))},
		{api.ErrType, inst(128, 0, 0)},
		{api.ErrType, inst(253, 1, 0)},
		{api.ErrType, inst(248, 9, 0)},
		{api.ErrId, inst(128, 9, 0)},
		{api.ErrId, inst(128, math.MaxUint32, 2, anId(3), anId(4))},
		{api.ErrResult, inst(128, 1, 0, anId(3), anId(4))},
		{api.ErrResult, inst(248, 0, 0)},
		{api.ErrResult, inst(253, 0, 1)},
		{api.ErrResult, inst(62, 0, 9, anId(9))},
		{api.ErrId, inst(248, 0, 9)},
		{api.ErrId, inst(128, 1, 9, aText(""))},
		{api.ErrOperand, inst(253, 0, 0, anId(1))},
		{api.ErrOperand, sum()},
		{api.ErrOperand, sum(anId(3))},
		{api.ErrOperand, sum(anId(3), anId(4), anId(5))},
		{api.ErrOperand, sum(anId(3), aNumber(4))},
		{api.ErrOperand, sum(anId(3), api.Arg{N: 4})},
		{api.ErrOperand, sum(anId(3), api.Arg{Kind: 5, N: 4})},
		{api.ErrOperand, sum(anId(3), api.Arg{Kind: 255, N: 4})},
		{api.ErrOperand, sum(anId(3), api.Arg{Kind: api.ArgId, N: 4, S: "a"})},
		{api.ErrOperand, inst(43, 1, 2, api.Arg{Kind: api.ArgNumber, N: 4, S: "a"})},
		{api.ErrOperand, inst(17, 0, 0, api.Arg{Kind: api.ArgEnum, N: 1, S: "Shader"})},
		{api.ErrOperand, inst(17, 0, 0, aText("Shader"))},
		{api.ErrOperand, inst(7, 0, 2, api.Arg{Kind: api.ArgText, N: 1, S: "a"})},
		{api.ErrOperand, inst(7, 0, 2, api.Arg{Kind: api.ArgText, N: 1, S: "a\x00"})},
		{api.ErrOperand, inst(245, 1, 2, anId(3))},
		{api.ErrOperand, inst(251, 0, 0, anId(3), anId(4), aNumber(5))},
		{api.ErrOperand, inst(251, 0, 0, anId(3), anId(4), anId(5))},
		{api.ErrOperand, inst(15, 0, 0, anEnum(0), anId(4), aText("m"), aText("m"))},
		{api.ErrId, sum(anId(0), anId(4))},
		{api.ErrId, sum(anId(3), anId(9))},
		{api.ErrId, sum(anId(9), aNumber(4))},
		{api.ErrId, inst(245, 1, 2, anId(9))},
		{api.ErrEnum, inst(17, 0, 0, anEnum(2))},
		{api.ErrEnum, inst(15, 0, 0, anEnum(1), anId(0), aText("\x00"))},
		{api.ErrEnum, inst(71, 0, 0, anId(1), anEnum(math.MaxUint32))},
		{api.ErrNul, inst(5, 0, 0, anId(1), aText("a\x00"))},
		{api.ErrNul, inst(15, 0, 0, anEnum(4), anId(1), aText("\x00"), anId(0))},
	} {
		holdFault(t, c.i, 9, c.e)
	}
}

// P8.1: instructions of just MaxCount words, and of more.
func TestLineCount(t *testing.T) {
	ids := func(many int) []api.Arg { return slices.Repeat([]api.Arg{anId(1)}, many) }
	said := func(many int) string { return strings.Repeat(" %1", many) }
	holdLine(t, inst(30, 0, 1, ids(api.MaxCount-2)...), 2, "%1 = OpTypeStruct"+said(api.MaxCount-2))
	holdFault(t, inst(30, 0, 1, ids(api.MaxCount-1)...), 2, api.ErrCount)
	holdLine(t, inst(44, 1, 1, ids(api.MaxCount-3)...), 2, "%1 = OpConstantComposite %1"+said(api.MaxCount-3))
	holdFault(t, inst(44, 1, 1, ids(api.MaxCount-2)...), 2, api.ErrCount)
	holdFault(t, inst(44, 1, 1, ids(api.MaxWords)...), 2, api.ErrCount)
	for _, piece := range []string{"a", "\xff", `"`, `\`} {
		most := strings.Repeat(piece, 4*(api.MaxCount-2)-1)
		q := saidQuote(piece)
		holdLine(t, inst(7, 0, 1, aText(most)), 2, `%1 = OpString "`+strings.Repeat(q[1:len(q)-1], len(most))+`"`)
		holdFault(t, inst(7, 0, 1, aText(most+piece)), 2, api.ErrCount)
	}
	holdFault(t, inst(7, 0, 1, aText(strings.Repeat("a", 5*api.MaxWords))), 2, api.ErrCount)
	holdFault(t, inst(30, 0, 1, append(ids(api.MaxCount), anId(2))...), 2, api.ErrId)
}

// P8.1: instructions made by chance, right or not, by any bound: code.Raw's error and nothing beside it, or the chapter's line.
func TestLineByChance(t *testing.T) {
	d := dice(81)
	faults := map[api.Errno]int{}
	for range 60000 {
		i := d.inst(sampleBound)
		for range d.below(4) {
			i = d.spoiled(i)
		}
		bound := uint32(d.below(sampleBound + 2))
		_, e := code.Raw(i, bound)
		faults[e]++
		if e != api.OK {
			holdFault(t, i, bound, e)
		} else {
			holdLine(t, i, bound, saidLine(i))
		}
		if t.Failed() {
			t.FailNow()
		}
	}
	for _, e := range []api.Errno{api.OK, api.ErrOp, api.ErrType, api.ErrResult, api.ErrOperand, api.ErrId, api.ErrEnum, api.ErrNul} {
		if faults[e] < 10 {
			t.Errorf("%d instructions of the error %d", faults[e], e)
		}
	}
}

// P8.4: a line does not hang on the bound.
func TestLineOfEveryBound(t *testing.T) {
	for _, i := range samples() {
		want := saidLine(i)
		top := max(i.Type, i.Result)
		for _, n := range code.Ids(i) {
			top = max(top, n)
		}
		for bound := range uint32(sampleBound + 2) {
			if bound <= top && top > 0 {
				holdFault(t, i, bound, api.ErrId)
			} else {
				holdLine(t, i, bound, want)
			}
		}
		for _, bound := range []uint32{api.MaxBound, api.MaxBound + 1, math.MaxUint32} {
			holdLine(t, i, bound, want)
		}
	}
}
