package types

import (
	"slices"
	"strconv"
	"strings"
	"testing"

	"intaglio/api"
	"intaglio/code"
	"intaglio/ids"
	"intaglio/layout"
)

// P10.1: the chapter's examples of faults.
func TestNewExamples(t *testing.T) {
	holdNext(t, api.ErrSame, "%6 = OpTypeInt 32 0")
	holdNext(t, api.ErrSize, "%6 = OpTypeInt 16 0")
	holdNext(t, api.ErrNoType, "%6 = OpTypeVector %1 2")
	holdNext(t, api.ErrSize, "%6 = OpTypeVector %4 5")
	holdNext(t, api.ErrSize, "%6 = OpTypeStruct")
	holdNext(t, api.ErrSize, "%6 = OpConstant %3 0", "%7 = OpTypeArray %4 %6")
	// A label is made behind, in a function: ids is asked first.
	holdFault(t, fronted("%6 = OpTypeArray %4 %9", "%7 = OpTypeFunction %1", "%8 = OpFunction %1 None %7", "%9 = OpLabel", "OpReturn", "OpFunctionEnd"), spot(api.ErrAhead, next))
	// The document's fourth example.
	holdFault(t, modelled("%1 = OpTypeVector %1 2"), spot(api.ErrAhead, 1))
	holdFault(t, modelled("%1 = OpTypeInt 16 0"), spot(api.ErrSize, 1))
}

// P10.1: modules whose types are sound: without any, with one, with all kinds.
func TestNewSound(t *testing.T) {
	for _, m := range []api.Module{modelled(), read(1, "OpMemoryModel Logical Simple"), fronted(), many()} {
		holdSaid(t, table(t, m), m)
	}
	for _, line := range []string{"%1 = OpTypeVoid", "%1 = OpTypeBool", "%1 = OpTypeInt 32 0", "%1 = OpTypeInt 32 1"} {
		holdSaid(t, table(t, modelled(line)), modelled(line))
	}
}

// P10.1: numbers are of 32 bits, with a sign or without.
func TestNewInt(t *testing.T) {
	for _, width := range []string{"0", "1", "8", "16", "31", "33", "64", "32768", "2147483680", "4294967295"} {
		for _, sign := range []string{"0", "1", "2"} {
			holdFault(t, modelled("%1 = OpTypeInt "+width+" "+sign), spot(api.ErrSize, 1))
		}
	}
	for _, sign := range []string{"2", "3", "32", "256", "257", "65537", "2147483648", "4294967295"} {
		holdFault(t, modelled("%1 = OpTypeInt 32 "+sign), spot(api.ErrSize, 1))
	}
}

// P10.1: a vector has two to four truths or numbers.
func TestNewVector(t *testing.T) {
	for _, p := range []string{"%2", "%3", "%4"} {
		for _, n := range []string{"2", "3", "4"} {
			holdNext(t, api.OK, "%6 = OpTypeVector "+p+" "+n)
		}
		for _, n := range []string{"0", "1", "5", "16", "258", "65538", "2147483650", "4294967295"} {
			holdNext(t, api.ErrSize, "%6 = OpTypeVector "+p+" "+n)
		}
	}
}

// others are lines that make the ids 6 to 19 of all kinds, plain or not; the first of other parts, which makes 20, stands ahead of these.
var others = []string{
	"%6 = OpTypeVector %4 2", "%7 = OpTypeArray %4 %5", "%8 = OpTypeStruct %2", "%9 = OpTypePointer Function %4", "%10 = OpTypeFunction %1",
	"%11 = OpConstantTrue %2", "%12 = OpUndef %4", "%13 = OpConstantNull %4", "%14 = OpConstantComposite %6 %5 %5", "%15 = OpVariable %9 Private", "%16 = OpTypePointer Private %6",
}

// with is the module of the front lines, a text's id 20, all of others, and a line behind them.
func with(line string) (api.Module, int) {
	l := slices.Concat([]string{`%20 = OpString "a"`}, front, others, []string{line})
	return modelled(l...), len(l)
}

// holdOnly says whether of all ids these alone may stand in a line in the place of %x; where others do, the error e is answered at that line.
func holdOnly(t *testing.T, e api.Errno, line string, only ...int) {
	t.Helper()
	for id := 1; id <= 20; id++ {
		if id > 16 && id < 20 {
			continue
		}
		m, at := with(strings.ReplaceAll(line, "%x", "%"+strconv.Itoa(id)))
		if slices.Contains(only, id) {
			table(t, m)
		} else {
			holdFault(t, m, spot(e, at))
		}
	}
}

// P10.1: which types, constants and other things may be which part of what.
func TestNewParts(t *testing.T) {
	holdOnly(t, api.ErrNoType, "%30 = OpTypeVector %x 3", 2, 3, 4)
	holdOnly(t, api.ErrNoType, "%30 = OpTypeArray %x %5", 2, 3, 4, 6, 7, 8)
	holdOnly(t, api.ErrSize, "%30 = OpTypeArray %4 %x", 5)
	for _, line := range []string{"%x", "%x %4", "%4 %x", "%4 %x %6", "%4 %7 %x", "%x %x"} {
		holdOnly(t, api.ErrNoType, "%30 = OpTypeStruct "+line, 2, 3, 4, 6, 7, 8)
	}
	holdOnly(t, api.ErrNoType, "%30 = OpTypePointer Input %x", 2, 3, 4, 6, 7, 8)
	holdOnly(t, api.ErrNoType, "%30 = OpTypePointer Output %x", 2, 3, 4, 6, 7, 8)
	for _, line := range []string{"%x %2", "%x %9 %9", "%x %4 %6"} {
		holdOnly(t, api.ErrNoType, "%30 = OpTypeFunction "+line, 1, 2, 3, 4, 6, 7, 8)
	}
	for _, line := range []string{"%1 %x", "%2 %x", "%1 %4 %x", "%1 %x %9", "%8 %4 %x %9", "%6 %x %x"} {
		holdOnly(t, api.ErrNoType, "%30 = OpTypeFunction "+line, 2, 3, 4, 6, 7, 8, 9, 16)
	}
}

// P10.1: a pointer of each class.
func TestNewPointer(t *testing.T) {
	for _, class := range []string{"Input", "Output", "Private", "Function"} {
		line := "%6 = OpTypePointer " + class
		holdNext(t, api.OK, line+" %2")
		holdNext(t, api.OK, line+" %4")
		holdNext(t, api.ErrNoType, line+" %1")
		holdNext(t, api.ErrNoType, line+" %5")
		holdNext(t, api.ErrNoType, line+" %4", "%7 = OpTypePointer Input %6")
		holdNext(t, api.ErrNoType, line+" %4", "%7 = OpTypePointer "+class+" %6")
	}
}

// P10.1: an array's length is a number's OpConstant, of whatever sign, from 1 to MaxSize.
func TestNewArray(t *testing.T) {
	for _, number := range []string{"%3", "%4"} {
		for _, p := range []string{"%2", "%3", "%4"} {
			for _, n := range []string{"1", "2", "3", "255", "256", "257", "4095", "4096"} {
				holdNext(t, api.OK, "%6 = OpConstant "+number+" "+n, "%7 = OpTypeArray "+p+" %6")
			}
			for _, n := range []string{"0", "4097", "65536", "65537", "1048577", "2147483647", "2147483648", "4294967295"} {
				holdNext(t, api.ErrSize, "%6 = OpConstant "+number+" "+n, "%7 = OpTypeArray "+p+" %6")
			}
		}
	}
	// By constants of other types, and by one whose type is none; these are no faults of types by themselves.
	for _, lines := range [][]string{
		{"%6 = OpConstant %2 3"}, {"%6 = OpConstant %1 3"}, {"%6 = OpConstant %5 3"},
		{"%8 = OpTypeVector %3 2", "%6 = OpConstant %8 3"}, {"%8 = OpTypeArray %3 %5", "%6 = OpConstant %8 3"}, {"%8 = OpTypeStruct %3", "%6 = OpConstant %8 3"},
		{"%8 = OpTypePointer Input %3", "%6 = OpConstant %8 3"}, {"%8 = OpTypeFunction %3", "%6 = OpConstant %8 3"},
		{"%6 = OpConstantTrue %2"}, {"%6 = OpConstantTrue %3"}, {"%6 = OpConstantNull %3"}, {"%6 = OpUndef %3"}, {"%6 = OpConstantComposite %3 %5"},
		{"%8 = OpTypePointer Private %3", "%6 = OpVariable %8 Private %5"}, {"%6 = OpTypeStruct %3"},
	} {
		table(t, fronted(lines...))
		holdNext(t, api.ErrSize, append(lines, "%7 = OpTypeArray %4 %6")...)
	}
	// By a text.
	holdFault(t, modelled(`%1 = OpString "3"`, "%2 = OpTypeBool", "%3 = OpTypeArray %2 %1"), spot(api.ErrSize, 3))
}

// P10.1: a struct has 1 to MaxMembers members.
func TestNewStruct(t *testing.T) {
	holdNext(t, api.OK, "%6 = OpTypeStruct %2")
	for _, n := range []int{2, 3, 255, 256} {
		holdNext(t, api.OK, "%6 = OpTypeStruct"+repeat("%4", n))
	}
	for _, n := range []int{257, 258, 512, 4096, 4097, 65533} {
		holdNext(t, api.ErrSize, "%6 = OpTypeStruct"+repeat("%4", n))
	}
	holdNext(t, api.ErrNoType, "%6 = OpTypeStruct"+repeat("%4", 255)+" %1")
	holdNext(t, api.ErrNoType, "%6 = OpTypeStruct %1"+repeat("%4", 255))
}

// P10.1: the size of arrays and structs is at most MaxSize.
func TestNewSize(t *testing.T) {
	lines := []string{
		"%6 = OpConstant %3 4096", "%7 = OpConstant %3 4095", "%8 = OpConstant %3 2048", "%9 = OpConstant %3 1024", "%10 = OpConstant %3 16", "%11 = OpConstant %3 1",
		"%20 = OpTypeVector %2 2", "%21 = OpTypeVector %2 4", "%22 = OpTypeArray %2 %6", "%23 = OpTypeArray %2 %7", "%24 = OpTypeStruct" + repeat("%4", 256),
		"%25 = OpConstant %3 1025", "%26 = OpConstant %3 17", "%27 = OpConstant %3 1366", "%28 = OpTypeVector %2 3", "%29 = OpConstant %3 1365", "%30 = OpConstant %3 2049",
	}
	for _, line := range []string{
		"%40 = OpTypeArray %20 %8", "%40 = OpTypeArray %21 %9", "%40 = OpTypeArray %24 %10", "%40 = OpTypeArray %22 %11", "%40 = OpTypeArray %28 %29",
		"%40 = OpTypeStruct %22", "%40 = OpTypeStruct %23 %2", "%40 = OpTypeStruct %2 %23", "%40 = OpTypeStruct" + repeat("%24", 16),
	} {
		m := fronted(append(lines, line)...)
		if n := table(t, m).Size(40); n != 4096 && line != "%40 = OpTypeArray %28 %29" || n > 4096 {
			t.Errorf("%s: the size %d", line, n)
		}
	}
	for _, line := range []string{
		"%40 = OpTypeArray %20 %30", "%40 = OpTypeArray %20 %6", "%40 = OpTypeArray %21 %25", "%40 = OpTypeArray %24 %26", "%40 = OpTypeArray %22 %10", "%40 = OpTypeArray %22 %6", "%40 = OpTypeArray %28 %27", "%40 = OpTypeArray %24 %6",
		"%40 = OpTypeStruct %22 %2", "%40 = OpTypeStruct %2 %22", "%40 = OpTypeStruct %23 %20", "%40 = OpTypeStruct %22 %22", "%40 = OpTypeStruct" + repeat("%24", 16) + " %2", "%40 = OpTypeStruct" + repeat("%24", 256), "%40 = OpTypeStruct" + repeat("%22", 256),
	} {
		holdNext(t, api.ErrSize, append(lines, line)...)
	}
	// Types that have no size are not asked for theirs.
	holdNext(t, api.OK, append(lines, "%40 = OpTypePointer Input %22", "%41 = OpTypeFunction %22 %22 %40 %22", "%42 = OpTypeFunction %1"+repeat("%22", 300))...)
}

// P10.1: the depth of arrays and structs is at most MaxNest: that of the deepest part counts, wherever it stands.
func TestNewDepth(t *testing.T) {
	one := "%6 = OpConstant %3 1"
	holdNext(t, api.OK, nested(10, "%4", 15)...)
	holdNext(t, api.ErrLarge, nested(10, "%4", 16)...)
	deep := append([]string{one, "%7 = OpTypeVector %4 2"}, nested(10, "%4", 14)...) // %23 has the depth 15
	for _, line := range []string{"%40 = OpTypeStruct %23", "%40 = OpTypeArray %23 %6", "%40 = OpTypeArray %23 %5", "%40 = OpTypeStruct %23 %2", "%40 = OpTypeStruct %2 %23", "%40 = OpTypeStruct %2 %23 %7"} {
		holdNext(t, api.OK, append(deep, line)...)
		for _, more := range []string{"%41 = OpTypeStruct %40", "%41 = OpTypeArray %40 %6", "%41 = OpTypeStruct %40 %2", "%41 = OpTypeStruct %2 %40", "%41 = OpTypeStruct %2 %40 %7"} {
			holdNext(t, api.ErrLarge, append(deep, line, more)...)
		}
		holdNext(t, api.OK, append(deep, line, "%41 = OpTypePointer Input %40", "%42 = OpTypeFunction %40 %41 %40")...)
	}
	// A vector is of the depth 2, from which one goes on.
	holdNext(t, api.OK, slices.Concat([]string{"%7 = OpTypeVector %4 2"}, nested(10, "%7", 14))...)
	holdNext(t, api.ErrLarge, slices.Concat([]string{"%7 = OpTypeVector %4 2"}, nested(10, "%7", 15))...)
	arrays := []string{one}
	part := "%2"
	for k := range 16 {
		id := "%" + strconv.Itoa(10+k)
		arrays = append(arrays, id+" = OpTypeArray "+part+" %6")
		part = id
	}
	holdNext(t, api.OK, arrays[:16]...)
	holdNext(t, api.ErrLarge, arrays...)
}

// P10.1: no two types but arrays and structs are made by the same instruction, but for its id; however far apart they stand.
func TestNewSame(t *testing.T) {
	lines := []string{
		"%6 = OpTypeVector %4 2", "%7 = OpTypeVector %4 3", "%8 = OpTypeVector %3 2", "%9 = OpTypeStruct %4", "%10 = OpTypeStruct %4", "%11 = OpTypeArray %4 %5", "%12 = OpTypeArray %4 %5",
		"%13 = OpTypePointer Input %4", "%14 = OpTypePointer Output %4", "%15 = OpTypePointer Input %3", "%16 = OpTypePointer Input %9", "%17 = OpTypePointer Input %10",
		"%18 = OpTypeFunction %1", "%19 = OpTypeFunction %4", "%20 = OpTypeFunction %4 %4", "%21 = OpTypeFunction %4 %4 %4", "%22 = OpTypeFunction %4 %3", "%23 = OpTypeFunction %3 %4", "%24 = OpTypeFunction %4 %3 %4", "%25 = OpTypeFunction %4 %4 %3",
		"%26 = OpTypeFunction %9", "%27 = OpTypeFunction %10", "%28 = OpTypeFunction %2 %11", "%29 = OpTypeFunction %2 %12",
		"%30 = OpTypeFunction %1 %11", "%31 = OpTypeFunction %11 %12", "%32 = OpTypeFunction %11 %2", "%33 = OpTypeFunction %11 %2 %2", "%35 = OpTypePointer Private %4",
	}
	m := fronted(lines...)
	holdSaid(t, table(t, m), m)
	for _, line := range slices.Concat(front[:4], lines) {
		again := append(slices.Clone(lines), "%50"+line[strings.Index(line, " "):])
		e := api.ErrSame
		if strings.Contains(line, "OpTypeArray") || strings.Contains(line, "OpTypeStruct") {
			e = api.OK
		}
		holdNext(t, e, again...)
	}
	for _, line := range front[:4] {
		holdFault(t, modelled(line, "%50"+line[2:]), spot(api.ErrSame, 2))
	}
}

// P10.1: ids and numbers are held against each other whole: pointers to very many structs, of which no two have one id.
func TestNewSameWhole(t *testing.T) {
	const structs = 9000
	l := []api.Inst{model(), inst(20, 0, 1)}
	for id := uint32(2); id < structs; id++ {
		l = append(l, inst(30, 0, id, anId(1)))
	}
	for id := uint32(2); id < structs; id++ {
		l = append(l, inst(32, 0, structs+id, anEnum(7), anId(id)), inst(33, 0, 2*structs+id, anId(id), anId(structs-id+1)))
	}
	m := module(api.MaxBound, l...)
	table(t, m)
	for _, again := range []api.Inst{inst(32, 0, 65535, anEnum(7), anId(8999)), inst(33, 0, 65535, anId(8999), anId(2))} {
		x := m
		x.Insts = append(slices.Clone(l), again)
		holdFault(t, x, spot(api.ErrSame, len(l)))
	}
}

// P10.1: at one place the first rule that does not hold is told.
func TestNewFirstRule(t *testing.T) {
	for _, c := range []struct {
		e     api.Errno
		lines []string
	}{
		{api.ErrSize, []string{"%6 = OpTypeInt 16 2"}},
		{api.ErrNoType, []string{"%6 = OpTypeVector %1 5"}},
		{api.ErrNoType, []string{"%6 = OpTypeVector %5 0"}},
		{api.ErrNoType, []string{"%6 = OpTypeArray %1 %1"}},
		{api.ErrNoType, []string{"%6 = OpConstant %3 0", "%7 = OpTypeArray %5 %6"}},
		{api.ErrSize, []string{"%6 = OpTypeStruct" + repeat("%1", 257)}},
		{api.ErrSize, []string{"%6 = OpTypeStruct" + repeat("%2", 256) + " %5"}},
		// Too large, and with what is no type.
		{api.ErrNoType, []string{"%6 = OpConstant %3 4096", "%7 = OpTypeArray %4 %6", "%8 = OpTypeStruct %7 %7 %1"}},
		// Too large, and too deep.
		{api.ErrSize, append(nested(10, "%4", 15), "%7 = OpConstant %3 4096", "%8 = OpTypeArray %4 %7", "%9 = OpTypeStruct %8 %24 %8")},
		{api.ErrSize, slices.Concat([]string{"%7 = OpConstant %3 4096", "%8 = OpTypeStruct %4 %4"}, nested(10, "%8", 14), []string{"%9 = OpTypeArray %23 %7"})},
		// Too deep, and with what is no type; by what is no length.
		{api.ErrNoType, append(nested(10, "%4", 15), "%9 = OpTypeStruct %24 %5")},
		{api.ErrSize, append(nested(10, "%4", 15), "%9 = OpTypeArray %24 %4")},
		{api.ErrNoType, []string{"%6 = OpTypeFunction %5 %1"}},
	} {
		holdNext(t, c.e, c.lines...)
	}
}

// P10.1, R9: of several faults the one at the least place.
func TestNewFirstPlace(t *testing.T) {
	faults := []struct {
		e    api.Errno
		line string
	}{
		{api.ErrSize, "OpTypeInt 16 0"}, {api.ErrSame, "OpTypeInt 32 1"}, {api.ErrNoType, "OpTypeVector %1 2"}, {api.ErrSize, "OpTypeVector %2 1"},
		{api.ErrNoType, "OpTypeArray %1 %5"}, {api.ErrSize, "OpTypeArray %2 %2"}, {api.ErrSize, "OpTypeStruct"}, {api.ErrNoType, "OpTypeStruct %5"},
		{api.ErrNoType, "OpTypePointer Input %1"}, {api.ErrNoType, "OpTypeFunction %5"}, {api.ErrLarge, "OpTypeStruct %64"}, {api.ErrSize, "OpTypeArray %49 %48"}, {api.ErrSame, "OpTypeBool"}, {api.ErrSame, "OpTypeVoid"},
	}
	ahead := slices.Concat(nested(50, "%4", 15), []string{"%48 = OpConstant %3 4096", "%49 = OpTypeVector %4 2"})
	for _, a := range faults {
		for _, b := range faults {
			l := append(slices.Clone(ahead), "%6 = "+a.line, "%7 = OpTypeStruct %2", "%8 = "+b.line)
			holdFault(t, fronted(l...), spot(a.e, next+len(ahead)))
		}
	}
}

// P10.1: what other instructions say of types is no matter of this layer.
func TestNewOthers(t *testing.T) {
	holdNext(t, api.OK, "%6 = OpConstantTrue %4", "%7 = OpConstantComposite %1", "%8 = OpVariable %2 Private %3", "%9 = OpConstantNull %1", "%10 = OpUndef %5", "%11 = OpConstant %5 0")
	holdNext(t, api.OK, "%6 = OpTypeFunction %1", "%7 = OpFunction %4 None %2", "%8 = OpFunctionParameter %6", "%9 = OpLabel", "%10 = OpIAdd %2 %1 %9", "OpReturnValue %7", "OpFunctionEnd")
}

// P10.1: a part that stands behind, or that stands nowhere, is a fault of ids, whatever is wrong with types ahead of it.
func TestNewBehind(t *testing.T) {
	for _, line := range []string{"OpTypeVector %9 2", "OpTypeArray %9 %5", "OpTypeArray %4 %9", "OpTypeStruct %4 %9", "OpTypePointer Input %9", "OpTypeFunction %9", "OpTypeFunction %1 %9"} {
		holdFault(t, fronted("%6 = "+line, "%9 = OpTypeStruct %2"), spot(api.ErrAhead, next))
		holdFault(t, fronted("%6 = "+line, "%9 = OpConstant %3 3"), spot(api.ErrAhead, next))
		holdFault(t, fronted("%9 = "+line), spot(api.ErrAhead, next))
		holdFault(t, fronted("%6 = "+line), spot(api.ErrUnknown, next))
		holdFault(t, fronted("%6 = OpTypeInt 32 0", "%7 = "+line), spot(api.ErrUnknown, next+1))
	}
	holdFault(t, fronted("%6 = OpTypeInt 16 0", "%7 = OpTypeStruct", "%6 = OpTypeStruct %2"), spot(api.ErrTwice, next+2))
	holdFault(t, fronted("%6 = OpTypeInt 32 0", "%4 = OpTypeStruct %2"), spot(api.ErrTwice, next+1))
}

// P10.1, R8: each Spot of ids.Check goes ahead, as it is, and there is nothing beside it: modules that are not of good shape, not in order, whose ids are not sound. All of them have a type that would be refused, too.
func TestNewAsksIds(t *testing.T) {
	bad := inst(21, 0, 1, aNumber(16), aNumber(0))
	full := slices.Repeat([]api.Inst{inst(253, 0, 0)}, api.MaxWords)
	for _, c := range []struct {
		m api.Module
		s api.Spot
	}{
		{api.Module{}, spot(api.ErrBound, 0)},
		{module(0, model(), bad), spot(api.ErrBound, 0)},
		{module(api.MaxBound+1, model(), bad), spot(api.ErrBound, 0)},
		{module(9, model(), bad, inst(22, 0, 2)), spot(api.ErrOp, 2)},
		{module(9, model(), bad, inst(22, 0, 2), inst(65535, 1, 2)), spot(api.ErrOp, 2)},
		{module(9, model(), bad, inst(20, 1, 2)), spot(api.ErrType, 2)},
		{module(9, model(), bad, inst(1, 0, 2)), spot(api.ErrType, 2)},
		{module(9, model(), bad, inst(20, 0, 0)), spot(api.ErrResult, 2)},
		{module(9, model(), bad, inst(20, 0, 9)), spot(api.ErrId, 2)},
		{module(9, model(), bad, inst(23, 0, 2)), spot(api.ErrOperand, 2)},
		{module(9, model(), bad, inst(23, 0, 2, anId(1))), spot(api.ErrOperand, 2)},
		{module(9, model(), bad, inst(28, 0, 2, anId(1), aNumber(3))), spot(api.ErrOperand, 2)},
		{module(9, model(), bad, inst(21, 0, 2, aNumber(32))), spot(api.ErrOperand, 2)},
		{module(9, model(), bad, inst(33, 0, 2)), spot(api.ErrOperand, 2)},
		{module(9, model(), bad, inst(28, 0, 2, anId(1), anId(0))), spot(api.ErrId, 2)},
		{module(9, model(), bad, inst(32, 0, 2, anEnum(2), anId(1))), spot(api.ErrEnum, 2)},
		{module(9, model(), bad, inst(30, 0, 2, slices.Repeat([]api.Arg{anId(1)}, api.MaxCount-1)...)), spot(api.ErrCount, 2)},
		{module(9, append([]api.Inst{model(), bad, inst(7, 0, 2, aText("a\x00"))}, full...)...), spot(api.ErrNul, 2)},
		{module(9, append([]api.Inst{model(), bad}, full...)...), spot(api.ErrLarge, api.MaxWords-5-3-4+2)},
		{module(9), spot(api.ErrOpen, 0)},
		{module(9, bad), spot(api.ErrOrder, 0)},
		{module(9, model(), bad, model()), spot(api.ErrOrder, 2)},
		{module(9, model(), bad, inst(248, 0, 2)), spot(api.ErrOrder, 2)},
		{modelled("%1 = OpTypeInt 16 0", "%2 = OpFunction %1 None %1", "%3 = OpTypeInt 16 0"), spot(api.ErrOrder, 3)},
		{modelled("%1 = OpTypeInt 16 0", "%2 = OpFunction %1 None %1", "%3 = OpLabel"), spot(api.ErrOpen, 4)},
		{modelled("%1 = OpTypeInt 16 0", "%1 = OpTypeInt 16 0"), spot(api.ErrTwice, 2)},
		{modelled("%1 = OpTypeInt 16 0", "%2 = OpFunction %1 None %1", "%1 = OpLabel", "OpReturn", "OpFunctionEnd"), spot(api.ErrTwice, 3)},
		{modelled("%1 = OpTypeInt 16 0", "%2 = OpTypeStruct %3"), spot(api.ErrUnknown, 2)},
		{modelled("%1 = OpTypeInt 16 0", "%2 = OpFunction %1 None %9", "%3 = OpLabel", "OpReturn", "OpFunctionEnd"), spot(api.ErrUnknown, 2)},
		{modelled(`OpName %9 "a"`, "%1 = OpTypeInt 16 0"), spot(api.ErrUnknown, 1)},
		{modelled("%1 = OpTypeInt 16 0", "%2 = OpTypeStruct %3", "%3 = OpTypeBool"), spot(api.ErrAhead, 2)},
	} {
		if s := ids.Check(c.m); s != c.s {
			t.Fatalf("ids.Check: %v; not %v", s, c.s)
		}
		x, s := New(c.m)
		if s != c.s || x != nil {
			t.Errorf("New: %v, %v; not %v", x, s, c.s)
		}
	}
}

// P10.1: as many types as a module can have, the last one wrong, or none.
func TestNewAtLimit(t *testing.T) {
	l := []api.Inst{model(), inst(20, 0, 1), inst(21, 0, 2, aNumber(32), aNumber(1))}
	for id := uint32(3); id < api.MaxBound; id++ {
		l = append(l, inst(33, 0, id, anId(1), anId(1), anId(2)))
		for k, bits := 0, id; bits > 0 && k < 9; k, bits = k+1, bits>>2 {
			l[len(l)-1].Args = append(l[len(l)-1].Args, anId(1+bits&1), anId(1+bits>>1&1))
		}
	}
	// The words are at most so many: as many types as there is room for.
	m := module(api.MaxBound, l...)
	if s := code.Shape(m); s.Err == api.ErrLarge {
		m.Insts = m.Insts[:s.At-1]
	}
	if s := layout.Check(m); s != (api.Spot{}) {
		t.Fatal(s)
	}
	x := table(t, m)
	if len(x.Ids()) != len(m.Insts)-1 {
		t.Errorf("%d types of %d", len(x.Ids()), len(m.Insts))
	}
	last := m.Insts[len(m.Insts)-1]
	m.Insts = append(slices.Clone(m.Insts), inst(33, 0, last.Result+1, last.Args...))
	holdFault(t, m, spot(api.ErrSame, len(m.Insts)-1))
	var small []api.Inst
	for id := uint32(3); id < api.MaxBound; id++ {
		small = append(small, inst(30, 0, id, anId(1+id&1)))
	}
	m = module(api.MaxBound, append(slices.Clone(l[:3]), small...)...)
	if x := table(t, m); len(x.Ids()) != api.MaxBound-1 || x.Size(65535) != 1 || x.Kind(65535) != api.KindStruct || x.Kind(65536) != 0 {
		t.Error("the greatest id")
	}
	m.Insts[len(m.Insts)-1].Args = nil
	holdFault(t, m, spot(api.ErrSize, len(m.Insts)-1))
}

// P10.1: a function of as many parameters as an instruction can have.
func TestNewWideFunction(t *testing.T) {
	l := slices.Repeat([]api.Arg{anId(1)}, api.MaxCount-2)
	m := module(9, model(), inst(20, 0, 1), inst(33, 0, 2, l...))
	x := table(t, m)
	if n := x.Count(2); n != api.MaxCount-2 {
		t.Errorf("%d parts", n)
	}
	if p, is := x.Part(2, api.MaxCount-3); p != 1 || !is {
		t.Errorf("%d, %v", p, is)
	}
	if s, _ := x.Text(2); s != "fn(bool"+strings.Repeat(",bool", api.MaxCount-3)+")" {
		t.Errorf("a text of %d bytes", len(s))
	}
	wrong := apart(m)
	wrong.Insts[2].Args[api.MaxCount-3] = anId(3)
	wrong.Insts = slices.Insert(wrong.Insts, 2, inst(19, 0, 3))
	holdFault(t, wrong, spot(api.ErrNoType, 3))
	m.Insts = append(m.Insts, inst(33, 0, 3, l...))
	holdFault(t, m, spot(api.ErrSame, 3))
	m.Insts[3].Args = slices.Clone(l[1:])
	table(t, m)
}
