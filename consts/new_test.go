package consts

import (
	"strings"
	"testing"

	"intaglio/api"
	"intaglio/types"
)

// P11.1: the chapter's examples of faults.
func TestNewExamples(t *testing.T) {
	holdNext(t, api.ErrNoType, "%30 = OpConstantTrue %3")
	holdNext(t, api.ErrValue, "%30 = OpConstantComposite %6 %18")
	holdNext(t, api.ErrNoConst, "%30 = OpConstantComposite %6 %18 %3")
	holdNext(t, api.ErrValue, "%30 = OpConstantComposite %6 %18 %19")
	holdNext(t, api.ErrStore, "%30 = OpVariable %11 Output")
	holdNext(t, api.ErrValue, "%30 = OpVariable %11 Private %18")
	holdNext(t, api.ErrNoType, "%30 = OpVariable %6 Private")
}

// P11.1: modules whose constants are sound: without any, with one, with all kinds.
func TestNewSound(t *testing.T) {
	for _, m := range []api.Module{modelled(), read(1, "OpMemoryModel Logical Simple"), modelled("%1 = OpTypeVoid"), modelled(front[:4]...), modelled(front[:5]...), fronted(), many()} {
		holdSaid(t, pool(t, m), m)
	}
	p := pool(t, modelled(front[:4]...))
	if len(p.Ids()) != 0 || len(p.Variables()) != 0 || len(p.Types().Ids()) != 4 {
		t.Errorf("a module without constants: %v, %v", p.Ids(), p.Variables())
	}
	m := read(1, "OpMemoryModel Logical Simple")
	if p := pool(t, m); p.Types() == nil || len(p.Types().Ids()) != 0 {
		t.Error("a module without types")
	}
}

// holdTypes says whether of the types 1 to 17 these alone may stand in a line in the place of %x; where others do ErrNoType is answered, and of ids that are no types', too.
func holdTypes(t *testing.T, line string, only ...string) {
	t.Helper()
	for _, id := range strings.Fields("%1 %2 %3 %4 %5 %6 %7 %8 %9 %10 %11 %12 %13 %14 %15 %16 %17 %18 %19 %20") {
		want := api.ErrNoType
		if strings.Contains(" "+strings.Join(only, " ")+" ", " "+id+" ") {
			want = api.OK
		}
		holdNext(t, want, strings.ReplaceAll(line, "%x", id))
	}
}

// P11.1: of which types constants are.
func TestNewTypes(t *testing.T) {
	plain := strings.Fields("%2 %3 %4 %6 %7 %8 %9 %10 %16")
	holdTypes(t, "%30 = OpUndef %x", plain...)
	holdTypes(t, "%30 = OpConstantNull %x", plain...)
	holdTypes(t, "%30 = OpConstantTrue %x", "%2")
	holdTypes(t, "%30 = OpConstantFalse %x", "%2")
	holdTypes(t, "%30 = OpConstant %x 1", "%3", "%4")
	holdTypes(t, "%30 = OpConstant %x 0", "%3", "%4")
}

// P11.1: a variable's type is a pointer's, whatever its class and its second argument.
func TestNewNoPointer(t *testing.T) {
	for _, id := range strings.Fields("%1 %2 %3 %4 %5 %6 %7 %8 %9 %10 %15 %16 %18 %19 %20") {
		for _, behind := range []string{" Private", " Output", " Input", " Private %18", " Output %20", " Input %1"} {
			holdNext(t, api.ErrNoType, "%30 = OpVariable "+id+behind)
		}
	}
}

// P11.1: composites are of vectors, arrays and structs: of all others ErrNoType is answered, whatever the arguments.
func TestNewCompositeTypes(t *testing.T) {
	for _, id := range strings.Fields("%1 %2 %3 %4 %5 %11 %12 %14 %15 %17 %18 %19 %20") {
		for _, args := range []string{"", " %18", " %19", " %18 %18", " %1", " %20 %20 %20"} {
			holdNext(t, api.ErrNoType, "%30 = OpConstantComposite "+id+args)
		}
	}
}

// P11.1: a composite has as many arguments as its type has parts: not one less, not one more, whatever they are.
func TestNewCount(t *testing.T) {
	ahead := []string{
		"%30 = OpUndef %4", "%31 = OpUndef %6", "%32 = OpUndef %8", "%33 = OpUndef %9",
		"%34 = OpConstant %3 256", "%35 = OpTypeArray %4 %34", "%36 = OpTypeStruct" + repeat("%2", 256), "%37 = OpConstant %3 1", "%38 = OpTypeArray %2 %37",
	}
	for _, c := range []struct {
		typeId, args string
	}{
		{"%6", "%18 %18"}, {"%7", "%19 %19 %19 %19"}, {"%8", "%30 %30 %30"}, {"%9", "%19 %31 %32"}, {"%10", "%33 %33 %33"}, {"%16", "%18"},
		{"%35", repeat("%30", 256)[1:]}, {"%36", repeat("%19", 256)[1:]}, {"%38", "%19"},
	} {
		l := strings.Fields(c.args)
		fault := func(want api.Errno, args []string) {
			holdNext(t, want, append(ahead[:len(ahead):len(ahead)], "%60 = OpConstantComposite "+c.typeId+" "+strings.Join(args, " "))...)
		}
		fault(api.OK, l)
		fault(api.ErrValue, l[1:])
		fault(api.ErrValue, nil)
		more := append(l[:len(l):len(l)], l[0])
		fault(api.ErrValue, more)
		fault(api.ErrValue, append(more, more...))
		// What stands there is not looked at while there are too many or too few.
		more[0] = "%1"
		fault(api.ErrValue, more)
		if len(l) > 1 {
			fault(api.ErrValue, more[:len(l)-1])
		}
	}
}

// P11.1: an argument that is no constant: a type, a variable, a text's id; those that are made there or behind are ids' own faults.
func TestNewNoConstant(t *testing.T) {
	for _, id := range strings.Fields("%1 %2 %3 %6 %11 %15 %20 %40") {
		holdNext(t, api.ErrNoConst, "%40 = OpVariable %11 Private", "%41 = OpConstantComposite %6 "+id+" %18")
		holdNext(t, api.ErrNoConst, "%40 = OpVariable %11 Private", "%41 = OpConstantComposite %6 %18 "+id)
		holdNext(t, api.ErrNoConst, "%40 = OpVariable %11 Private", "%41 = OpVariable %11 Private "+id)
		holdNext(t, api.ErrNoConst, "%40 = OpVariable %11 Private", "%41 = OpVariable %12 Output "+id)
	}
	holdNext(t, api.OK, "%40 = OpConstant %3 1", "%41 = OpConstantComposite %6 %18 %40")
	holdNext(t, api.OK, "%40 = OpConstantNull %6", "%41 = OpVariable %11 Private %40")
	for _, line := range []string{"%40 = OpConstantComposite %6 %18 %40", "%40 = OpConstantComposite %6 %40 %41", "%40 = OpVariable %11 Private %40", "%40 = OpVariable %11 Private %41"} {
		holdFault(t, fronted(line, "%41 = OpConstantNull %6"), spot(api.ErrAhead, next))
	}
	holdFault(t, fronted("%40 = OpConstantComposite %6 %18 %41"), spot(api.ErrUnknown, next))
	// What functions make is made behind: a label, a sum.
	for _, id := range []string{"%60", "%61", "%62"} {
		holdFault(t, fronted("%40 = OpConstantComposite %6 %18 "+id, "%60 = OpFunction %1 None %15", "%61 = OpLabel", "%62 = OpIAdd %3 %18 %18", "OpReturn", "OpFunctionEnd"), spot(api.ErrAhead, next))
	}
}

// P11.1: an argument's type is that of the part by its id: types of one text are not one.
func TestNewPartTypes(t *testing.T) {
	holdNext(t, api.ErrValue, "%30 = OpConstant %4 7", "%31 = OpConstantComposite %6 %30 %18")
	holdNext(t, api.ErrValue, "%30 = OpConstant %4 7", "%31 = OpConstantComposite %6 %18 %30")
	holdNext(t, api.ErrValue, "%30 = OpConstantComposite %7 %19 %19 %19 %18")
	holdNext(t, api.ErrValue, "%30 = OpConstantComposite %8 %18 %18 %18")
	holdNext(t, api.ErrValue, "%30 = OpUndef %6", "%31 = OpUndef %8", "%32 = OpConstantComposite %9 %19 %31 %30")
	holdNext(t, api.ErrValue, "%30 = OpTypeArray %4 %5", "%31 = OpUndef %6", "%32 = OpUndef %30", "%33 = OpConstantComposite %9 %19 %31 %32")
	holdNext(t, api.ErrValue, "%30 = OpTypeStruct %2 %6 %8", "%31 = OpUndef %9", "%32 = OpUndef %30", "%33 = OpConstantComposite %10 %31 %31 %32")
	holdNext(t, api.ErrValue, "%30 = OpConstantNull %10", "%31 = OpConstantComposite %16 %30")
}

// P11.1: a variable's class is its pointer's, and Function's pointers are none of a module's variables.
func TestNewClass(t *testing.T) {
	pointers := map[string]string{"%11": "Private", "%12": "Output", "%13": "Input", "%14": "Function", "%17": "Private"}
	for id, own := range pointers {
		for _, class := range []string{"Private", "Output", "Input"} {
			want := api.ErrStore
			if class == own {
				want = api.OK
			}
			holdNext(t, want, "%30 = OpVariable "+id+" "+class)
			if class != own || class == "Input" {
				// Ahead of what the second argument is.
				for _, first := range []string{" %1", " %18", " %20", " %29"} {
					holdNext(t, api.ErrStore, "%29 = OpConstantNull %6", "%30 = OpVariable "+id+" "+class+first)
				}
			}
		}
	}
}

// P11.1: what a variable holds at first is of the type that its pointer points to, by its id.
func TestNewFirst(t *testing.T) {
	ahead := []string{"%30 = OpConstantNull %6", "%31 = OpUndef %9", "%32 = OpTypeStruct %2 %6 %8", "%33 = OpConstantNull %32", "%34 = OpConstantComposite %6 %18 %18", "%35 = OpConstant %4 7", "%36 = OpConstantNull %7"}
	for _, c := range []struct {
		line string
		only string
	}{{"%11 Private", "%30 %34"}, {"%12 Output", "%30 %34"}, {"%17 Private", "%31"}} {
		for _, id := range strings.Fields("%5 %18 %19 %30 %31 %33 %34 %35 %36") {
			want := api.ErrValue
			if strings.Contains(c.only, id) {
				want = api.OK
			}
			holdNext(t, want, append(ahead[:len(ahead):len(ahead)], "%50 = OpVariable "+c.line+" "+id)...)
		}
	}
}

// P11.1: where several rules do not hold at one place the first of them is told.
func TestNewFirstRule(t *testing.T) {
	// Of no such type; of too few; the arguments one behind the other, each first whether it is a constant.
	holdNext(t, api.ErrNoType, "%30 = OpConstantComposite %3 %1 %1 %1")
	holdNext(t, api.ErrValue, "%30 = OpConstantComposite %6 %1")
	holdNext(t, api.ErrNoConst, "%30 = OpConstantComposite %6 %1 %19")
	holdNext(t, api.ErrValue, "%30 = OpConstantComposite %6 %19 %1")
	holdNext(t, api.ErrNoConst, "%30 = OpConstantComposite %6 %2 %19")
	holdNext(t, api.ErrValue, "%30 = OpConstantComposite %7 %19 %18 %1 %1")
	holdNext(t, api.ErrNoConst, "%30 = OpConstantComposite %7 %19 %1 %18 %18")
	// Of no pointer; of another class; Input with a second argument; no constant.
	holdNext(t, api.ErrNoType, "%30 = OpVariable %6 Input %1")
	holdNext(t, api.ErrNoType, "%30 = OpVariable %1 Output %18")
	holdNext(t, api.ErrStore, "%30 = OpVariable %11 Output %1")
	holdNext(t, api.ErrStore, "%30 = OpVariable %13 Input %1")
	holdNext(t, api.ErrStore, "%30 = OpVariable %13 Input %18")
	holdNext(t, api.ErrStore, "%29 = OpConstantNull %6", "%30 = OpVariable %13 Input %29")
	holdNext(t, api.ErrNoConst, "%30 = OpVariable %11 Private %6")
}

// P11.1: of several faults that at the least place is told.
func TestNewLeastPlace(t *testing.T) {
	faults := map[string]api.Errno{
		"OpConstantTrue %3":              api.ErrNoType,
		"OpConstantComposite %6 %18":     api.ErrValue,
		"OpConstantComposite %6 %18 %3":  api.ErrNoConst,
		"OpConstantComposite %6 %18 %19": api.ErrValue,
		"OpVariable %11 Output":          api.ErrStore,
		"OpVariable %6 Private":          api.ErrNoType,
	}
	for a, e := range faults {
		for b := range faults {
			holdFault(t, fronted("%30 = "+a, "%31 = "+b), spot(e, next))
			holdFault(t, fronted("%30 = OpUndef %2", "%31 = "+a, "%32 = OpUndef %2", "%33 = "+b), spot(e, next+1))
		}
	}
}

// P11.1, R8: the faults of the layers below are told as they are, ahead of those of constants at lesser places.
func TestNewBelow(t *testing.T) {
	bad := "%30 = OpConstantTrue %3"
	for _, m := range []api.Module{
		{},
		module(9),
		module(9, inst(20, 0, 1)),
		module(9, model(), inst(20, 0, 9)),
		module(9, model(), inst(20, 0, 0)),
		module(0, model()),
		module(api.MaxBound+1, model()),
		module(9, model(), inst(22, 0, 1)),
		module(9, model(), inst(43, 1, 1)),
		module(9, model(), inst(59, 1, 1, anEnum(2))),
		fronted(bad, "%31 = OpTypeBool"),
		fronted(bad, "%31 = OpTypeInt 16 0"),
		fronted(bad, "%31 = OpTypeVector %1 2"),
		fronted(bad, "%31 = OpTypeStruct"),
		fronted(bad, "%31 = OpTypeArray %3 %30"),
		fronted(append([]string{bad, "%40 = OpTypeStruct %2"}, nested(41, "%40", 16)...)...),
		fronted(bad, "%30 = OpUndef %2"),
		fronted(bad, "%31 = OpUndef %40"),
		fronted(bad, "%31 = OpUndef %32", "%32 = OpTypeStruct %2"),
		fronted(bad, "OpMemoryModel Logical Simple"),
		fronted(bad, "%60 = OpFunction %1 None %15"),
		fronted(bad, "%60 = OpFunction %1 None %15", "%61 = OpLabel", "%62 = OpVariable %14 Private", "OpReturn", "OpFunctionEnd"),
	} {
		_, want := types.New(m)
		if want.Err == api.OK {
			t.Fatalf("no fault: %v", m)
		}
		holdFault(t, m, want)
	}
}

// nested are lines of structs in one another, the first one of the id from on, with what as its member: so many of them.
func nested(from int, what string, n int) []string {
	var l []string
	for k := range n {
		id := "%" + string(rune('0'+(from+k)/10)) + string(rune('0'+(from+k)%10))
		l = append(l, id+" = OpTypeStruct "+what)
		what = id
	}
	return l
}

// P11.1: what stands in functions is not asked here: variables of theirs may be whatever they are.
func TestNewInFunctions(t *testing.T) {
	m := fronted(
		"%60 = OpFunction %1 None %15", "%61 = OpLabel",
		"%62 = OpVariable %6 Function", "%63 = OpVariable %11 Function", "%64 = OpVariable %14 Function %18", "%65 = OpVariable %14 Function %1", "%66 = OpVariable %20 Function %20",
		"OpReturn", "OpFunctionEnd")
	p := pool(t, m)
	holdSaid(t, p, m)
	for id := uint32(60); id <= 66; id++ {
		holdNoVariable(t, p, id)
	}
	holdFault(t, fronted("%50 = OpVariable %6 Private", "%60 = OpFunction %1 None %15", "%61 = OpLabel", "OpReturn", "OpFunctionEnd"), spot(api.ErrNoType, next))
}
