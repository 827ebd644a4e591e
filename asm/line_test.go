package asm

import (
	"math"
	"slices"
	"strconv"
	"strings"
	"testing"

	"intaglio/api"
	"intaglio/grammar"
	"intaglio/lex"
)

// P7.2: the chapter's examples.
func TestLineExamples(t *testing.T) {
	holdInst(t, "%3 = OpIAdd %1 %2 %2", 5, inst(128, 1, 3, id(2), id(2)))
	holdInst(t, "OpDecorate %1 Flat", 5, inst(71, 0, 0, id(1), enum(14)))
	for line, fault := range map[string]api.Spot{
		"OpIAdd %1 %2 %2":    spot(api.ErrResult, 0),
		"%3 = OpReturn":      spot(api.ErrResult, 0),
		"%9 = OpLabel":       spot(api.ErrId, 0),
		"%3 OpLabel":         spot(api.ErrLine, 3),
		"%3 =":               spot(api.ErrEarly, 4),
		"OpStore %1":         spot(api.ErrEarly, 10),
		"OpStore %1 %2 %3":   spot(api.ErrLine, 14),
		"OpStore %1 7":       spot(api.ErrLine, 11),
		"OpStor":             spot(api.ErrName, 0),
		"7":                  spot(api.ErrLine, 0),
		";":                  {},
		`OpName %1 "a\x00"`:  spot(api.ErrNul, 10),
		"OpDecorate %1 flat": spot(api.ErrName, 14),
	} {
		holdFault(t, line, 5, fault)
	}
}

// P7.2: instructions of each kind of argument, with blanks and notes.
func TestLine(t *testing.T) {
	for line, want := range map[string]api.Inst{
		"OpReturn":                               inst(253, 0, 0),
		"  OpReturn  ; done":                     inst(253, 0, 0),
		"\tOpKill\r":                             inst(252, 0, 0),
		"OpFunctionEnd;":                         inst(56, 0, 0),
		"%1 = OpLabel":                           inst(248, 0, 1),
		"%1=OpLabel":                             inst(248, 0, 1),
		"\r%1\t= \tOpLabel;%2":                   inst(248, 0, 1),
		"OpBranch%4":                             inst(249, 0, 0, id(4)),
		"%4 = OpUndef %1":                        inst(1, 1, 4),
		"%4 = OpTypeInt 32 1":                    inst(21, 0, 4, num(32), num(1)),
		"%4 = OpConstant %1 0":                   inst(43, 1, 4, num(0)),
		"%4 = OpConstant %1 4294967295":          inst(43, 1, 4, num(4294967295)),
		"%4 = OpConstant %1 -1":                  inst(43, 1, 4, num(4294967295)),
		"%4 = OpConstant %1 -2147483648":         inst(43, 1, 4, num(2147483648)),
		"%4 = OpConstant %1 0xFfFf0000":          inst(43, 1, 4, num(0xffff0000)),
		"%4 = OpConstant %1-7":                   inst(43, 1, 4, num(4294967289)),
		"OpCapability Shader":                    inst(17, 0, 0, enum(1)),
		"OpMemoryModel Logical GLSL450":          inst(14, 0, 0, enum(0), enum(1)),
		"OpSource GLSL 450":                      inst(3, 0, 0, enum(2), num(450)),
		"OpExecutionMode %4 OriginUpperLeft":     inst(16, 0, 0, id(4), enum(7)),
		`OpName %1 "main"`:                       inst(5, 0, 0, id(1), text("main")),
		`OpName %1 ""`:                           inst(5, 0, 0, id(1), text("")),
		`OpName%1"a\"\\;\x0a\xc3\xa9"`:           inst(5, 0, 0, id(1), text("a\"\\;\né")),
		`OpMemberName %2 7 "x"`:                  inst(6, 0, 0, id(2), num(7), text("x")),
		`%3 = OpString "%1 = OpLabel"`:           inst(7, 0, 3, text("%1 = OpLabel")),
		`OpEntryPoint Fragment %1 "m"`:           inst(15, 0, 0, enum(4), id(1), text("m")),
		`OpEntryPoint Vertex %1 "m" %2 %3 %2`:    inst(15, 0, 0, enum(0), id(1), text("m"), id(2), id(3), id(2)),
		"%4 = OpFunction %1 Pure %2":             inst(54, 1, 4, enum(4), id(2)),
		"%4 = OpTypeStruct":                      inst(30, 0, 4),
		"%4 = OpTypeStruct %1 %1 %1":             inst(30, 0, 4, id(1), id(1), id(1)),
		"%4 = OpTypeStruct %4":                   inst(30, 0, 4, id(4)),
		"%4 = OpVariable %1 Function":            inst(59, 1, 4, enum(7)),
		"%4 = OpVariable %1 Private %2":          inst(59, 1, 4, enum(6), id(2)),
		"OpDecorate %1 Flat":                     inst(71, 0, 0, id(1), enum(14)),
		"OpDecorate %1 Location 3":               inst(71, 0, 0, id(1), enum(30), num(3)),
		"OpDecorate %1 Flat 1 2 3 4":             inst(71, 0, 0, id(1), enum(14), num(1), num(2), num(3), num(4)),
		"%4 = OpPhi %1":                          inst(245, 1, 4),
		"%4 = OpPhi %1 %2 %3":                    inst(245, 1, 4, id(2), id(3)),
		"%4 = OpPhi %1 %2 %3 %4 %1":              inst(245, 1, 4, id(2), id(3), id(4), id(1)),
		"OpSwitch %1 %2":                         inst(251, 0, 0, id(1), id(2)),
		"OpSwitch %1 %2 -1 %3 0x1 %4":            inst(251, 0, 0, id(1), id(2), num(4294967295), id(3), num(1), id(4)),
		"OpLoopMerge %1 %2 DontUnroll":           inst(246, 0, 0, id(1), id(2), enum(2)),
		"OpSelectionMerge %1 Flatten":            inst(247, 0, 0, id(1), enum(1)),
		"%4 = OpVectorShuffle %1 %2 %3 0 1 -1":   inst(79, 1, 4, id(2), id(3), num(0), num(1), num(4294967295)),
		"%1 = OpBitFieldInsert %1 %1 %2 %3 %4 ;": inst(201, 1, 1, id(1), id(2), id(3), id(4)),
	} {
		holdInst(t, line, 5, want)
	}
}

// P7.2: idle lines.
func TestLineIdle(t *testing.T) {
	for _, line := range []string{"", " ", "\t\r ", ";", ";;", " ; a", ";%x", ";\x00\xff\n\"", "; OpReturn"} {
		for _, bound := range []uint32{0, 1, 5, math.MaxUint32} {
			holdFault(t, line, bound, api.Spot{})
		}
	}
}

// P7.2: a line of every operation, with each letter of its form, each enumerant, and rows of what may follow.
func TestLineOfEveryForm(t *testing.T) {
	d := dice(72)
	ops, letters := map[uint16]int{}, map[rune]int{}
	for _, s := range samples() {
		holdInst(t, lineOf(s.tokens), sampleBound, s.inst)
		holdInst(t, d.loose(s.tokens), sampleBound, s.inst)
		ops[s.inst.Op]++
		for _, letter := range s.spots {
			letters[letter]++
		}
	}
	if len(ops) != 93 {
		t.Errorf("lines of %d operations", len(ops))
	}
	for _, letter := range "r=otinskamexlcdfhg" {
		if letters[letter] == 0 {
			t.Errorf("no token of the letter %c", letter)
		}
	}
}

// P7.2: each name of an enumerant at each letter: it may be another one's.
func TestLineOfEveryEnumerant(t *testing.T) {
	fronts := map[byte]string{'k': "OpCapability ", 'e': "OpEntryPoint ", 'x': "OpExecutionMode %1 ", 'l': "OpSource ", 'a': "OpMemoryModel ", 'm': "OpMemoryModel Logical ", 'c': "%2 = OpVariable %1 ", 'd': "OpDecorate %1 ", 'f': "%2 = OpFunction %1 ", 'h': "OpSelectionMerge %1 ", 'g': "OpLoopMerge %1 %1 "}
	behind := map[byte]string{'e': ` %1 ""`, 'l': " 1", 'a': " Simple", 'f': " %1"}
	names := []string{"none", "NONE", "Nonex", "Non", "_", "i", "OpReturn", "module", "UniformConstant", "Uniform", "GLCompute", "OpenCL", "Kernel"}
	for letter := range fronts {
		for _, e := range enumsOf(letter) {
			names = append(names, e.name)
		}
	}
	for letter, front := range fronts {
		for _, name := range names {
			line := front + name + behind[letter]
			n, ok := grammar.EnumNamed(letter, name)
			if !ok {
				holdFault(t, line, 5, spot(api.ErrName, len(front)))
				continue
			}
			i, is, s := Line(line, 5)
			if !is || s != (api.Spot{}) || !slices.Contains(i.Args, enum(n)) {
				t.Errorf("%q: %v, %v, %v", line, i, is, s)
			}
		}
	}
}

// P7.2, point 1: the result.
func TestLineResult(t *testing.T) {
	for line, fault := range map[string]api.Spot{
		"%3":               spot(api.ErrEarly, 2),
		"%3 ":              spot(api.ErrEarly, 3),
		"  %3 ; OpLabel":   spot(api.ErrEarly, 14),
		"%3=":              spot(api.ErrEarly, 3),
		"%3 = ;":           spot(api.ErrEarly, 6),
		"%3 = ; OpLabel":   spot(api.ErrEarly, 14),
		"%3 OpLabel":       spot(api.ErrLine, 3),
		"%3 %4":            spot(api.ErrLine, 3),
		"%3 7 = OpLabel":   spot(api.ErrLine, 3),
		"%3 \"=\" OpLabel": spot(api.ErrLine, 3),
		"%3  OpReturn =":   spot(api.ErrLine, 4),
		// The result's id is looked at only behind the operation.
		"%0":           spot(api.ErrEarly, 2),
		"%9 =":         spot(api.ErrEarly, 4),
		"%9 OpLabel":   spot(api.ErrLine, 3),
		"%9 = 7":       spot(api.ErrLine, 5),
		"%9 = OpLabl":  spot(api.ErrName, 5),
		"%9 = OpBit 7": spot(api.ErrName, 5),
	} {
		holdFault(t, line, 5, fault)
	}
}

// P7.2, point 2: the operation.
func TestLineOperation(t *testing.T) {
	for line, fault := range map[string]api.Spot{
		"7":                        spot(api.ErrLine, 0),
		" -1 OpReturn":             spot(api.ErrLine, 1),
		"=":                        spot(api.ErrLine, 0),
		"= OpLabel":                spot(api.ErrLine, 0),
		"\"OpReturn\"":             spot(api.ErrLine, 0),
		"%3 = =":                   spot(api.ErrLine, 5),
		"%3 == OpLabel":            spot(api.ErrLine, 4),
		"%3 = %4":                  spot(api.ErrLine, 5),
		"%3 = %4 = OpLabel":        spot(api.ErrLine, 5),
		"%3 = \"OpLabel\"":         spot(api.ErrLine, 5),
		"%3 = 248":                 spot(api.ErrLine, 5),
		"OpStor":                   spot(api.ErrName, 0),
		"OpStores %1 %2":           spot(api.ErrName, 0),
		"opreturn":                 spot(api.ErrName, 0),
		"OPRETURN":                 spot(api.ErrName, 0),
		"Return":                   spot(api.ErrName, 0),
		"OpNop":                    spot(api.ErrName, 0),
		"%3 = OpFAdd %1 %2 %2":     spot(api.ErrName, 5),
		"module 0 5":               spot(api.ErrName, 0),
		"_":                        spot(api.ErrName, 0),
		"Flat 7":                   spot(api.ErrName, 0),
		"OpLabel":                  spot(api.ErrResult, 0),
		"  OpLabel 7":              spot(api.ErrResult, 2),
		"OpTypeVoid":               spot(api.ErrResult, 0),
		"\tOpPhi":                  spot(api.ErrResult, 1),
		"%3 = OpStore %1 %2":       spot(api.ErrResult, 0),
		" %3 = OpReturn 7":         spot(api.ErrResult, 1),
		"%9 = OpReturn":            spot(api.ErrResult, 0),
		"\t%0 = OpStore":           spot(api.ErrResult, 1),
		"%0 = OpLabel":             spot(api.ErrId, 0),
		"%5 = OpLabel":             spot(api.ErrId, 0),
		"%6 = OpLabel":             spot(api.ErrId, 0),
		" %4294967295 = OpLabel":   spot(api.ErrId, 1),
		"%9 = OpLabel 7":           spot(api.ErrId, 0),
		"%9 = OpIAdd":              spot(api.ErrId, 0),
		"  %9 = OpIAdd %9 %9 %9 =": spot(api.ErrId, 2),
	} {
		holdFault(t, line, 5, fault)
	}
}

// P7.2, points 3 and 4: the type and the arguments.
func TestLineArguments(t *testing.T) {
	for line, fault := range map[string]api.Spot{
		// The type.
		"%3 = OpIAdd":           spot(api.ErrEarly, 11),
		"%3 = OpIAdd  ; %1":     spot(api.ErrEarly, 17),
		"%3 = OpUndef":          spot(api.ErrEarly, 12),
		"%3 = OpIAdd 1 %2 %2":   spot(api.ErrLine, 12),
		"%3 = OpIAdd x":         spot(api.ErrLine, 12),
		"%3 = OpIAdd \"1\"":     spot(api.ErrLine, 12),
		"%3 = OpIAdd = %1":      spot(api.ErrLine, 12),
		"%3 = OpIAdd %0 %2 %2":  spot(api.ErrId, 12),
		"%3 = OpIAdd %5 %2 %2":  spot(api.ErrId, 12),
		"%3 = OpIAdd %9":        spot(api.ErrId, 12),
		"%3 = OpUndef %1 %2":    spot(api.ErrLine, 16),
		"%3 = OpUndef %9 %2":    spot(api.ErrId, 13),
		"%3 = OpVariable Input": spot(api.ErrLine, 16),
		// Of an id.
		"OpStore 1 %2":           spot(api.ErrLine, 8),
		"OpStore x %2":           spot(api.ErrLine, 8),
		"OpStore \"1\" %2":       spot(api.ErrLine, 8),
		"OpStore = %1 %2":        spot(api.ErrLine, 8),
		"OpStore %1 = %2":        spot(api.ErrLine, 11),
		"OpStore %0 %2":          spot(api.ErrId, 8),
		"OpStore %1 %5":          spot(api.ErrId, 11),
		"OpStore %1 %4294967295": spot(api.ErrId, 11),
		"%3 = OpTypeStruct %1 0": spot(api.ErrLine, 21),
		"%3 = OpPhi %1 %2 %9":    spot(api.ErrId, 17),
		// Of a number.
		"%3 = OpTypeInt %1 1":           spot(api.ErrLine, 15),
		"%3 = OpTypeInt 32 x":           spot(api.ErrLine, 18),
		"%3 = OpTypeInt \"32\"":         spot(api.ErrLine, 15),
		"%3 = OpTypeInt 32 =":           spot(api.ErrLine, 18),
		"%3 = OpTypeInt 032 1":          spot(api.ErrNumber, 15),
		"%3 = OpConstant %1 4294967296": spot(api.ErrNumber, 19),
		"OpDecorate %1 Flat 1 %2":       spot(api.ErrLine, 21),
		"OpSwitch %1 %2 %3 7":           spot(api.ErrLine, 15),
		"OpSwitch %1 %2 7 3":            spot(api.ErrLine, 17),
		// Of a text.
		"OpName %1 a":               spot(api.ErrLine, 10),
		"OpName %1 7":               spot(api.ErrLine, 10),
		"OpName %1 %2":              spot(api.ErrLine, 10),
		"OpName %1 =":               spot(api.ErrLine, 10),
		`OpName %1 "\x00"`:          spot(api.ErrNul, 10),
		`OpName %1 "\x00a" 7`:       spot(api.ErrNul, 10),
		`%3 = OpString "ab\x00cd"`:  spot(api.ErrNul, 14),
		`OpName 7 "\x00"`:           spot(api.ErrLine, 7),
		`OpName %9 "\x00"`:          spot(api.ErrId, 7),
		`OpName %1 "a`:              spot(api.ErrString, 10),
		"OpName %1 \"\x00\"":        spot(api.ErrString, 10),
		`OpEntryPoint Vertex %1 %2`: spot(api.ErrLine, 23),
		// Of an enumerant.
		"OpCapability 1":               spot(api.ErrLine, 13),
		"OpCapability %1":              spot(api.ErrLine, 13),
		"OpCapability \"Shader\"":      spot(api.ErrLine, 13),
		"OpCapability =":               spot(api.ErrLine, 13),
		"OpCapability shader":          spot(api.ErrName, 13),
		"OpCapability Kernel x":        spot(api.ErrName, 13),
		"OpCapability Flat":            spot(api.ErrName, 13),
		"OpMemoryModel Simple":         spot(api.ErrName, 14),
		"OpMemoryModel Logical OpenCL": spot(api.ErrName, 22),
		"%3 = OpVariable %1 Uniform":   spot(api.ErrName, 19),
		// Behind all that may stand there.
		"OpReturn 7":                     spot(api.ErrLine, 9),
		"OpReturn %9":                    spot(api.ErrLine, 9),
		"OpReturn OpReturn":              spot(api.ErrLine, 9),
		"OpReturn=":                      spot(api.ErrLine, 8),
		`OpReturn "\x00"`:                spot(api.ErrLine, 9),
		"%3 = OpLabel %4":                spot(api.ErrLine, 13),
		"OpStore %1 %2 %3":               spot(api.ErrLine, 14),
		"OpStore %1 %2 %9 %9":            spot(api.ErrLine, 14),
		"OpCapability Shader Matrix":     spot(api.ErrLine, 20),
		"%3 = OpVariable %1 Input %2 %2": spot(api.ErrLine, 28),
		"%3 = OpVariable %1 Input %2 7":  spot(api.ErrLine, 28),
		"%3 = OpVariable %1 Input 7":     spot(api.ErrLine, 25),
		"OpName %1 \"a\" \"b\"":          spot(api.ErrLine, 14),
		// Too early.
		"OpStore":                            spot(api.ErrEarly, 7),
		"OpStore %1":                         spot(api.ErrEarly, 10),
		" OpStore %1 ; %2":                   spot(api.ErrEarly, 16),
		"OpCapability":                       spot(api.ErrEarly, 12),
		"OpName %1":                          spot(api.ErrEarly, 9),
		"%3 = OpTypeInt 32":                  spot(api.ErrEarly, 17),
		"%3 = OpIAdd %1":                     spot(api.ErrEarly, 14),
		"%3 = OpIAdd %1 %2\t":                spot(api.ErrEarly, 18),
		"%3 = OpTypeFunction":                spot(api.ErrEarly, 19),
		"%3 = OpVariable %1":                 spot(api.ErrEarly, 18),
		"%3 = OpPhi %1 %2":                   spot(api.ErrEarly, 16),
		"%3 = OpPhi %1 %2 %3 %4":             spot(api.ErrEarly, 22),
		"%3 = OpPhi":                         spot(api.ErrEarly, 10),
		"OpSwitch %1 %2 7":                   spot(api.ErrEarly, 16),
		"OpSwitch %1 %2 7 %3 8 ":             spot(api.ErrEarly, 22),
		"OpSwitch %1":                        spot(api.ErrEarly, 11),
		`OpEntryPoint Vertex %1`:             spot(api.ErrEarly, 22),
		"%3 = OpBitFieldInsert %1 %1 %1 %1;": spot(api.ErrEarly, 34),
	} {
		holdFault(t, line, 5, fault)
	}
}

// P7.2: of several faults the one that comes first.
func TestLineFirstFault(t *testing.T) {
	for line, fault := range map[string]api.Spot{
		// Lex's goes ahead of all others, wherever it stands.
		"7 .":                 spot(api.ErrSign, 2),
		"%9 OpStor = %x":      spot(api.ErrNumber, 12),
		`OpReturn 7 "`:        spot(api.ErrString, 11),
		"OpReturn\n":          spot(api.ErrSign, 8),
		"%3 = OpReturn \x80":  spot(api.ErrSign, 14),
		"OpStore %4294967296": spot(api.ErrNumber, 8),
		// The others by their tokens.
		"%9 7 OpStor":                   spot(api.ErrLine, 3),
		"OpStor 7 %9":                   spot(api.ErrName, 0),
		"OpLabel 7 7":                   spot(api.ErrResult, 0),
		"%3 = OpReturn %9 7":            spot(api.ErrResult, 0),
		"OpStore %9 7":                  spot(api.ErrId, 8),
		"OpStore 7 %9":                  spot(api.ErrLine, 8),
		"OpStore %9":                    spot(api.ErrId, 8),
		"OpStore %1 %9 7":               spot(api.ErrId, 11),
		"OpDecorate %9 flat x":          spot(api.ErrId, 11),
		"OpDecorate %1 flat x":          spot(api.ErrName, 14),
		"OpDecorate %1 Flat x":          spot(api.ErrLine, 19),
		`OpName %1 "\x00" "\x00"`:       spot(api.ErrNul, 10),
		`OpEntryPoint vertex %9 "\x00"`: spot(api.ErrName, 13),
		`OpEntryPoint Vertex %9 "\x00"`: spot(api.ErrId, 20),
		`OpEntryPoint Vertex %1 "\x00"`: spot(api.ErrNul, 23),
		`OpEntryPoint Vertex %1 "" 7`:   spot(api.ErrLine, 26),
		"%3 = OpPhi %1 %2 7":            spot(api.ErrLine, 17),
		"%3 = OpPhi %9 %9":              spot(api.ErrId, 11),
		"%9 = OpPhi %9 %9":              spot(api.ErrId, 0),
		"OpSwitch %1 %2 7 %9 8":         spot(api.ErrId, 17),
	} {
		holdFault(t, line, 5, fault)
	}
}

// P7.2: every sample, with each of its ids at the edges, by several bounds.
func TestLineIds(t *testing.T) {
	for _, bound := range []uint32{0, 1, 2, 3, sampleBound, api.MaxBound - 1, api.MaxBound, api.MaxBound + 1, math.MaxUint32} {
		for _, s := range samples() {
			for at, spot := range s.spots {
				if !strings.ContainsRune("rti", spot) {
					continue
				}
				for _, n := range []uint32{0, 1, bound - 2, bound - 1, bound, bound + 1, math.MaxUint32} {
					l := slices.Clone(s.tokens)
					l[at].Text = strconv.FormatUint(uint64(n), 10)
					holdSaid(t, lineOf(l), bound)
				}
			}
		}
	}
	holdInst(t, "OpBranch %1", 2, inst(249, 0, 0, id(1)))
	holdInst(t, "OpBranch %65535", api.MaxBound, inst(249, 0, 0, id(65535)))
	holdInst(t, "%65535 = OpUndef %65535", api.MaxBound, inst(1, 65535, 65535))
	holdInst(t, "%4294967294 = OpUndef %4294967294", math.MaxUint32, inst(1, math.MaxUint32-1, math.MaxUint32-1))
	holdInst(t, "OpReturn", 0, inst(253, 0, 0))
	holdFault(t, "OpBranch %1", 1, spot(api.ErrId, 9))
	holdFault(t, "OpBranch %1", 0, spot(api.ErrId, 9))
	holdFault(t, "OpBranch %0", 0, spot(api.ErrId, 9))
	holdFault(t, "OpBranch %65536", api.MaxBound, spot(api.ErrId, 9))
	holdFault(t, "OpBranch %4294967295", math.MaxUint32, spot(api.ErrId, 9))
}

// P7.2: every sample, with each of its tokens taken out, with a token of each kind in its place, ahead of it and behind the last one, and cut off behind each, held against the chapter's words.
func TestLineOfEverySampleChanged(t *testing.T) {
	faults := map[api.Errno]int{}
	hold := func(l []api.Token) { faults[holdSaid(t, lineOf(l), sampleBound)]++ }
	for _, s := range samples() {
		for at := range len(s.tokens) + 1 {
			hold(s.tokens[:at])
			for _, x := range strayTokens() {
				hold(slices.Insert(slices.Clone(s.tokens), at, x))
				if at < len(s.tokens) {
					l := slices.Clone(s.tokens)
					l[at] = x
					hold(l)
				}
			}
			if at < len(s.tokens) {
				hold(slices.Delete(slices.Clone(s.tokens), at, at+1))
			}
		}
	}
	for _, e := range []api.Errno{api.OK, api.ErrLine, api.ErrName, api.ErrEarly, api.ErrResult, api.ErrId, api.ErrNul} {
		if faults[e] < 10 {
			t.Errorf("%d lines of the error %d", faults[e], e)
		}
	}
}

// P7.2: lines made by chance, and every line of some pieces up to a length, held against the chapter's words.
func TestLineOfEveryLine(t *testing.T) {
	d := dice(73)
	all := samples()
	for range 60000 {
		l := all[d.below(len(all))].tokens
		for range d.below(4) {
			l = d.changed(l)
		}
		holdSaid(t, d.loose(l), uint32(d.below(sampleBound+2)))
	}
	for range 20000 {
		holdSaid(t, d.bytes(9), 5)
		holdSaid(t, d.of("OpReturn", "%1 = OpLabel", "OpStore %1", "%", "OpName %1 \"")+d.bytes(5), 5)
	}
	everyRow([]string{"%1", "%7", "=", "OpReturn", "OpPhi", "OpSwitch", "OpVariable", "OpDecorate", "Flat", "7", `"a"`, ";"}, 5, func(l []string) {
		holdSaid(t, strings.Join(l, " "), 5)
	})
}

// P7.2, point 5: instructions of just MaxCount words, and of more; that is told behind all other faults, at 0.
func TestLineCount(t *testing.T) {
	ids := func(front string, many int) string { return front + strings.Repeat(" %1", many) }
	quoted := func(many int) string { return lex.Quote(strings.Repeat("a", many)) }
	most := func(words int) int { return 4*words - 1 } // bytes of a text of so many words
	for _, c := range []struct {
		line string
		args int
	}{
		{ids("%1 = OpTypeStruct", api.MaxCount-2), api.MaxCount - 2},
		{ids("%1 = OpTypeStruct", api.MaxCount-3), api.MaxCount - 3},
		{ids("%1 = OpConstantComposite %1", api.MaxCount-3), api.MaxCount - 3},
		{ids("%1 = OpPhi %1", api.MaxCount-3), api.MaxCount - 3},
		{"OpDecorate %1 Flat" + strings.Repeat(" 7", api.MaxCount-3), api.MaxCount - 1},
		{"OpSwitch %1 %1" + strings.Repeat(" 7 %1", (api.MaxCount-3)/2), api.MaxCount - 1},
		{"OpName %1 " + quoted(most(api.MaxCount-2)), 2},
		{"%1 = OpString " + quoted(most(api.MaxCount-2)), 1},
		{ids(`OpEntryPoint Vertex %1 "abc"`, api.MaxCount-4), api.MaxCount - 1},
		{ids("OpEntryPoint Vertex %1 "+quoted(most(30000)), api.MaxCount-3-30000), api.MaxCount - 30000},
	} {
		i, is, s := Line(c.line, 2)
		if !is || s != (api.Spot{}) || len(i.Args) != c.args {
			t.Errorf("%s: %d arguments, %v, %v", brief(c.line), len(i.Args), is, s)
		}
	}
	for line, fault := range map[string]api.Spot{
		ids("%1 = OpTypeStruct", api.MaxCount-1):                                    spot(api.ErrCount, 0),
		ids("  %1 = OpTypeStruct", api.MaxCount-1):                                  spot(api.ErrCount, 0),
		ids("%1 = OpTypeStruct", 1<<20):                                             spot(api.ErrCount, 0),
		ids("%1 = OpConstantComposite %1", api.MaxCount-2):                          spot(api.ErrCount, 0),
		"OpDecorate %1 Flat" + strings.Repeat(" 7", api.MaxCount-2):                 spot(api.ErrCount, 0),
		"OpSwitch %1 %1" + strings.Repeat(" 7 %1", (api.MaxCount-1)/2):              spot(api.ErrCount, 0),
		"OpName %1 " + quoted(most(api.MaxCount-2)+1):                               spot(api.ErrCount, 0),
		"OpName %1 " + quoted(5*api.MaxWords):                                       spot(api.ErrCount, 0),
		ids(`OpEntryPoint Vertex %1 "abc"`, api.MaxCount-3):                         spot(api.ErrCount, 0),
		ids(`OpEntryPoint Vertex %1 "abcd"`, api.MaxCount-4):                        spot(api.ErrCount, 0),
		ids("%1 = OpPhi %1", api.MaxCount-1):                                        spot(api.ErrCount, 0),
		ids("%1 = OpPhi %1", api.MaxCount-2):                                        spot(api.ErrEarly, 13+3*(api.MaxCount-2)),
		ids("%1 = OpTypeStruct", api.MaxCount-1) + " 7":                             spot(api.ErrLine, 18+3*(api.MaxCount-1)),
		ids("%1 = OpTypeStruct", api.MaxCount+9) + " %2":                            spot(api.ErrId, 18+3*(api.MaxCount+9)),
		"OpName %1 " + lex.Quote(strings.Repeat("a", 4*api.MaxCount)+"\x00"):        spot(api.ErrNul, 10),
		"OpName %1 " + quoted(4*api.MaxCount) + " 7":                                spot(api.ErrLine, 4*api.MaxCount+13),
		ids("%1 = OpTypeStruct", api.MaxCount-1) + " .":                             spot(api.ErrSign, 18+3*(api.MaxCount-1)),
		"OpMemberName %1 " + quoted(4*api.MaxCount):                                 spot(api.ErrLine, 16),
		`OpMemberName %1 7 ` + quoted(4*api.MaxCount) + "; " + quoted(api.MaxCount): spot(api.ErrCount, 0),
	} {
		holdFault(t, line, 2, fault)
	}
}

// R1: lines of very many arguments, and of names and blanks as long as a text may be.
func TestLineLarge(t *testing.T) {
	holdFault(t, "%1 = OpTypeStruct"+strings.Repeat("%1", api.MaxText/8), 2, spot(api.ErrCount, 0))
	holdFault(t, strings.Repeat("O", api.MaxText), 2, spot(api.ErrName, 0))
	holdFault(t, strings.Repeat(" ", api.MaxText), 2, api.Spot{})
	holdFault(t, "OpReturn"+strings.Repeat("=", api.MaxText/8), 2, spot(api.ErrLine, 8))
	holdFault(t, "OpCapability "+strings.Repeat("S", api.MaxText), 2, spot(api.ErrName, 13))
	holdInst(t, strings.Repeat(" ", api.MaxText)+"OpReturn", 2, inst(253, 0, 0))
}
