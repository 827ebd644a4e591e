package typing

import (
	"slices"
	"strconv"
	"strings"
	"testing"

	"intaglio/api"
	"intaglio/asm"
	"intaglio/grammar"
)

// spot is a fault at a place.
func spot(e api.Errno, at int) api.Spot { return api.Spot{Err: e, At: at} }

// typed is the fault of an instruction that does not fit.
func typed(at int) api.Spot { return spot(api.ErrTyped, at) }

// anId, aNumber, anEnum: arguments.
func anId(n uint32) api.Arg { return api.Arg{Kind: api.ArgId, N: n} }

func aNumber(n uint32) api.Arg { return api.Arg{Kind: api.ArgNumber, N: n} }

func anEnum(n uint32) api.Arg { return api.Arg{Kind: api.ArgEnum, N: n} }

// inst is an instruction.
func inst(op uint16, typeId, result uint32, l ...api.Arg) api.Inst {
	return api.Inst{Op: op, Type: typeId, Result: result, Args: l}
}

// reading is a module whose ids have names, and the place of the line that is asked for.
type reading struct {
	api.Module
	named map[string]uint32
	at    int
}

// spare is how many ids below the bound nothing makes, behind those that have names.
const spare = 2

// read is the module of lines, in which ids have names of any kind; they are numbered as they come. A line that begins with a > is the one that is asked for.
func read(lines ...string) reading {
	r := reading{named: map[string]uint32{}, at: -1}
	for at, line := range lines {
		line, asked := strings.CutPrefix(line, "> ")
		if asked {
			r.at = at
		}
		l := strings.Fields(line)
		for k, word := range l {
			if name, is := strings.CutPrefix(word, "%"); is {
				if r.named[name] == 0 {
					r.named[name] = uint32(len(r.named) + 1)
				}
				l[k] = "%" + strconv.Itoa(int(r.named[name]))
			}
		}
		lines[at] = strings.Join(l, " ")
	}
	bound := strconv.Itoa(len(r.named) + 1 + spare)
	m, s := asm.Parse("module 7 " + bound + "\n" + strings.Join(lines, "\n"))
	if s.Err != api.OK {
		panic("no module's lines: " + strings.Join(lines, "; "))
	}
	r.Module = m
	return r
}

// front are the lines with which the modules here begin. A value without more to say of it is named v and then its type's name; a pointer's type P (Function), Q (Private), N (Input), O (Output) and then what it points to, a variable p, q, n, o likewise; a type that is made as another one has a _ behind its name.
var front = strings.Split(strings.TrimSpace(`
OpMemoryModel Logical Simple
%str = OpString "a"
%V = OpTypeVoid
%B = OpTypeBool
%I = OpTypeInt 32 1
%U = OpTypeInt 32 0
%B2 = OpTypeVector %B 2
%B3 = OpTypeVector %B 3
%I2 = OpTypeVector %I 2
%I3 = OpTypeVector %I 3
%I4 = OpTypeVector %I 4
%U2 = OpTypeVector %U 2
%u0 = OpConstant %U 0
%u1 = OpConstant %U 1
%u2 = OpConstant %U 2
%u3 = OpConstant %U 3
%i0 = OpConstant %I 0
%i1 = OpConstant %I 1
%i-1 = OpConstant %I -1
%true = OpConstantTrue %B
%false = OpConstantFalse %B
%nullU = OpConstantNull %U
%nullI = OpConstantNull %I
%someI2 = OpConstantComposite %I2 %i0 %i1
%A = OpTypeArray %I %u2
%A_ = OpTypeArray %I %u2
%AB = OpTypeArray %B %u2
%A1 = OpTypeArray %I %u1
%A3 = OpTypeArray %I2 %u3
%S = OpTypeStruct %I %I2
%S_ = OpTypeStruct %I %I2
%D = OpTypeStruct %B %A3 %S
%one = OpTypeStruct %I
%II = OpTypeStruct %I %I
%UU = OpTypeStruct %U %U
%IU = OpTypeStruct %I %U
%BB = OpTypeStruct %B %B
%III = OpTypeStruct %I %I %I
%I2I2 = OpTypeStruct %I2 %I2
%AA = OpTypeStruct %A %A
%SS = OpTypeStruct %S %S
%PI = OpTypePointer Function %I
%PU = OpTypePointer Function %U
%PB = OpTypePointer Function %B
%PI2 = OpTypePointer Function %I2
%PA = OpTypePointer Function %A
%PA1 = OpTypePointer Function %A1
%PS = OpTypePointer Function %S
%PD = OpTypePointer Function %D
%QI = OpTypePointer Private %I
%QS = OpTypePointer Private %S
%NI = OpTypePointer Input %I
%NS = OpTypePointer Input %S
%OI = OpTypePointer Output %I
%fV = OpTypeFunction %V
%fI = OpTypeFunction %I
%fVI = OpTypeFunction %V %I
%fVIU = OpTypeFunction %V %I %U
%fIPI = OpTypeFunction %I %PI
%fVA = OpTypeFunction %V %A
%vB = OpUndef %B
%vI = OpUndef %I
%vU = OpUndef %U
%vB2 = OpUndef %B2
%vB3 = OpUndef %B3
%vI2 = OpUndef %I2
%vI3 = OpUndef %I3
%vI4 = OpUndef %I4
%vU2 = OpUndef %U2
%vA = OpUndef %A
%vA_ = OpUndef %A_
%vA1 = OpUndef %A1
%vAB = OpUndef %AB
%vS = OpUndef %S
%vS_ = OpUndef %S_
%vD = OpUndef %D
%vII = OpUndef %II
%vBB = OpUndef %BB
%vAA = OpUndef %AA
%qI = OpVariable %QI Private
%qS = OpVariable %QS Private
%nI = OpVariable %NI Input
%nS = OpVariable %NS Input
%oI = OpVariable %OI Output
`), "\n")

// others are the lines of the functions that stand behind the one that is asked; all of them fit.
var others = strings.Split(strings.TrimSpace(`
%gV = OpFunction %V None %fV
%gV1 = OpLabel
OpReturn
OpFunctionEnd
%gI = OpFunction %I None %fI
%gI1 = OpLabel
OpReturnValue %i1
OpFunctionEnd
%gVI = OpFunction %V None %fVI
%gVIa = OpFunctionParameter %I
%gVI1 = OpLabel
OpKill
OpFunctionEnd
%gVIU = OpFunction %V None %fVIU
%gVIUa = OpFunctionParameter %I
%gVIUb = OpFunctionParameter %U
%gVIU1 = OpLabel
OpUnreachable
OpFunctionEnd
%gIPI = OpFunction %I None %fIPI
%gIPIa = OpFunctionParameter %PI
%gIPI1 = OpLabel
OpReturnValue %vI
OpFunctionEnd
%gVA = OpFunction %V None %fVA
%gVAa = OpFunctionParameter %A
%gVA1 = OpLabel
OpReturn
OpFunctionEnd
`), "\n")

// body lines: the function that is asked has variables, and then values: sum and usum, of I and U, no constants; call, of V.
const (
	head   = "%main = OpFunction %V None %fV\n%l1 = OpLabel"
	rooms  = "%pI = OpVariable %PI Function\n%pU = OpVariable %PU Function\n%pB = OpVariable %PB Function\n%pI2 = OpVariable %PI2 Function\n%pA = OpVariable %PA Function\n%pA1 = OpVariable %PA1 Function\n%pS = OpVariable %PS Function\n%pD = OpVariable %PD Function"
	values = "%sum = OpIAdd %I %i1 %i1\n%usum = OpIAdd %U %u1 %u1\n%call = OpFunctionCall %V %gV"
)

// formOf is the form of the operation that a line names.
func formOf(line string) api.Form {
	name, _, _ := strings.Cut(line, " ")
	f, is := grammar.Named(name)
	if !is {
		panic("no operation's line: " + line)
	}
	return f
}

// asked is the line that is asked for; its id, if it makes one, is named new.
func asked(line string) string {
	if formOf(line).Result {
		line = "%new = " + line
	}
	return "> " + line
}

// host is a module in whose first function a line stands, where its operation may stand, with more lines at its end. All else in it fits, but for these.
func host(line string, more ...string) reading {
	var first, middle, second []string
	first, end := []string{"OpBranch %l2"}, []string{"OpReturn"}
	switch name := formOf(line).Name; name {
	case "OpVariable":
		middle = strings.Split(asked(line)+"\n"+rooms+"\n"+values, "\n")
	case "OpPhi":
		middle, second = strings.Split(rooms+"\n"+values, "\n"), []string{asked(line)}
	case "OpBranch", "OpBranchConditional", "OpSwitch", "OpKill", "OpReturn", "OpReturnValue", "OpUnreachable":
		middle, first = strings.Split(rooms+"\n"+values, "\n"), []string{asked(line)}
	case "OpLoopMerge", "OpSelectionMerge":
		middle, first = strings.Split(rooms+"\n"+values, "\n"), []string{asked(line), "OpBranchConditional %vB %l2 %l2"}
	default:
		middle = strings.Split(rooms+"\n"+values+"\n"+asked(line), "\n")
	}
	return read(slices.Concat(front, strings.Split(head, "\n"), middle, first, []string{"%l2 = OpLabel"}, second, end, []string{"OpFunctionEnd"}, others, more)...)
}

// fun is a module whose first function has that OpFunction (its line, without an id), parameters of these types, and that last instruction; the line with a > is asked for.
func fun(line string, parameters []string, last string) reading {
	mark := func(line string, id string) string {
		line, asked := strings.CutPrefix(line, "> ")
		if id != "" {
			line = id + " = " + line
		}
		if asked {
			line = "> " + line
		}
		return line
	}
	lines := []string{mark(line, "%main")}
	for k, p := range parameters {
		lines = append(lines, "%a"+strconv.Itoa(k)+" = OpFunctionParameter "+p)
	}
	lines = append(lines, "%l1 = OpLabel")
	lines = append(lines, strings.Split(rooms+"\n"+values, "\n")...)
	return read(slices.Concat(front, lines, []string{mark(last, ""), "OpFunctionEnd"}, others)...)
}

// holdFits says whether Fits answers that of the line that is asked for.
func holdFits(t *testing.T, r reading, want bool, line string) {
	t.Helper()
	if is, s := Fits(r.Module, r.at); is != want || s != (api.Spot{}) {
		t.Errorf("Fits of %s: %v, %v; not %v", line, is, s, want)
	}
	if is := saidFits(r.Module, r.at); is != want {
		t.Errorf("said of %s: %v; not %v", line, is, want)
	}
}

// holdLine says whether a line in a function fits, or does not: by Fits, and by Check.
func holdLine(t *testing.T, line string, want bool) {
	t.Helper()
	r := host(line)
	holdFits(t, r, want, line)
	first := api.Spot{}
	if !want {
		first = typed(r.at)
	}
	if s := Check(r.Module); s != first {
		t.Errorf("Check of %s: %v; not %v", line, s, first)
	}
}

// holdSaid says whether Check, and Fits of all places in functions, and of each of so many others, answer what the chapter says, and Type of each of so many ids.
func holdSaid(t *testing.T, m api.Module, each int) {
	t.Helper()
	if s, want := Check(m), saidCheck(m); s != want {
		t.Fatalf("Check: %v; not %v, of %v", s, want, m)
	}
	for at := range m.Insts {
		if at%each != 0 && saidFunction(m, at) < 0 {
			continue
		}
		is, s := Fits(m, at)
		if want := saidFits(m, at); is != want || s != (api.Spot{}) {
			t.Fatalf("Fits of %d: %v, %v; not %v, of %v", at, is, s, want, m)
		}
	}
	for id := range m.Bound + 2 {
		if int(id)%each != 0 {
			continue
		}
		typeId, s := Type(m, id)
		if want, fault := saidTypeOf(m, id); typeId != want || s != fault {
			t.Fatalf("Type of %d: %d, %v; not %d, %v", id, typeId, s, want, fault)
		}
	}
}

// copyOf is a module that shares no memory with another one.
func copyOf(m api.Module) api.Module {
	m.Insts = slices.Clone(m.Insts)
	for at, i := range m.Insts {
		m.Insts[at].Args = slices.Clone(i.Args)
	}
	return m
}

// same holds modules against each other, field by field.
func same(a, b api.Module) bool {
	return a.Generator == b.Generator && a.Bound == b.Bound && slices.EqualFunc(a.Insts, b.Insts, func(x, y api.Inst) bool {
		return x.Op == y.Op && x.Type == y.Type && x.Result == y.Result && slices.Equal(x.Args, y.Args)
	})
}
