package typing

import (
	"slices"

	"intaglio/api"
	"intaglio/consts"
	"intaglio/grammar"
)

// What the chapter says, said once more: each answer is looked up in the module's instructions anew, by the names of their operations.

// saidMaker is the instruction that makes an id; one without a name, if there is none.
func saidMaker(m api.Module, id uint32) (string, api.Inst) {
	at := slices.IndexFunc(m.Insts, func(i api.Inst) bool { return id != 0 && i.Result == id })
	if at < 0 {
		return "", api.Inst{}
	}
	return saidName(m.Insts[at]), m.Insts[at]
}

// saidName is the name of an instruction's operation.
func saidName(i api.Inst) string {
	f, _ := grammar.Of(i.Op)
	return f.Name
}

// saidType is the type of an id; 0, if it has none.
func saidType(m api.Module, id uint32) uint32 {
	name, i := saidMaker(m, id)
	if name == "OpFunction" {
		return 0
	}
	return i.Type
}

// saidTypeOf is what Type answers of an id.
func saidTypeOf(m api.Module, id uint32) (uint32, api.Spot) {
	if id < 1 || id >= m.Bound {
		return 0, spot(api.ErrRange, 0)
	}
	if saidType(m, id) == 0 {
		return 0, spot(api.ErrNone, 0)
	}
	return saidType(m, id), api.Spot{}
}

// saidIs says whether a type is made by that operation.
func saidIs(m api.Module, typeId uint32, names ...string) bool {
	name, _ := saidMaker(m, typeId)
	return slices.Contains(names, name)
}

// saidParts are the parts of a type.
func saidParts(m api.Module, typeId uint32) []uint32 {
	name, i := saidMaker(m, typeId)
	switch name {
	case "OpTypeVector":
		return slices.Repeat([]uint32{i.Args[0].N}, int(i.Args[1].N))
	case "OpTypeArray":
		_, length := saidMaker(m, i.Args[1].N)
		return slices.Repeat([]uint32{i.Args[0].N}, int(length.Args[0].N))
	case "OpTypePointer":
		return []uint32{i.Args[1].N}
	case "OpTypeStruct", "OpTypeFunction":
		var l []uint32
		for _, a := range i.Args {
			l = append(l, a.N)
		}
		return l
	}
	return nil
}

// saidPlain says whether a type is plain.
func saidPlain(m api.Module, typeId uint32) bool {
	return saidIs(m, typeId, "OpTypeBool", "OpTypeInt", "OpTypeVector", "OpTypeArray", "OpTypeStruct")
}

// saidAlike says whether two types are alike.
func saidAlike(m api.Module, a, b uint32) bool {
	x, _ := saidMaker(m, a)
	y, _ := saidMaker(m, b)
	return x == y && saidPlain(m, a) && slices.EqualFunc(saidParts(m, a), saidParts(m, b), func(a, b uint32) bool { return saidAlike(m, a, b) })
}

// saidRow says whether a type is made by that operation, or a vector's, whose parts are.
func saidRow(m api.Module, typeId uint32, name string) bool {
	return saidIs(m, typeId, name) || saidIs(m, typeId, "OpTypeVector") && saidIs(m, saidParts(m, typeId)[0], name)
}

// saidWide says whether two types are as wide.
func saidWide(m api.Module, a, b uint32) bool {
	x, y := saidIs(m, a, "OpTypeVector"), saidIs(m, b, "OpTypeVector")
	return !x && !y || x && y && len(saidParts(m, a)) == len(saidParts(m, b))
}

// saidPointer is the class of a pointer's type, and to what it points; false, if it is none.
func saidPointer(m api.Module, typeId uint32) (uint32, uint32, bool) {
	name, i := saidMaker(m, typeId)
	if name != "OpTypePointer" {
		return 0, 0, false
	}
	return i.Args[0].N, i.Args[1].N, true
}

// saidPath is where a path leads from a type; false, if nowhere.
func saidPath(m api.Module, typeId uint32, path []api.Arg) (uint32, bool) {
	if !saidPlain(m, typeId) {
		return 0, false
	}
	if len(path) == 0 {
		return typeId, true
	}
	l := saidParts(m, typeId)
	if uint64(path[0].N) >= uint64(len(l)) {
		return 0, false
	}
	return saidPath(m, l[path[0].N], path[1:])
}

// saidChain is where indexes lead from a type; false, if nowhere.
func saidChain(m api.Module, typeId uint32, indexes []api.Arg) (uint32, bool) {
	if len(indexes) == 0 {
		return typeId, true
	}
	l := saidParts(m, typeId)
	index := indexes[0].N
	switch {
	case saidIs(m, typeId, "OpTypeVector", "OpTypeArray") && saidIs(m, saidType(m, index), "OpTypeInt"):
		return saidChain(m, l[0], indexes[1:])
	case saidIs(m, typeId, "OpTypeStruct"):
		name, i := saidMaker(m, index)
		if name == "OpConstant" && uint64(i.Args[0].N) < uint64(len(l)) {
			return saidChain(m, l[i.Args[0].N], indexes[1:])
		}
	}
	return 0, false
}

// saidConstant says whether an id is a constant's.
func saidConstant(m api.Module, id uint32) bool {
	return saidIs(m, id, "OpUndef", "OpConstantTrue", "OpConstantFalse", "OpConstant", "OpConstantComposite", "OpConstantNull")
}

// saidFunction is the place of the OpFunction in whose function a place is; -1, if it is in none. A module in order has nothing behind its functions.
func saidFunction(m api.Module, at int) int {
	for ; at >= 0 && saidName(m.Insts[at]) != "OpFunction"; at-- {
	}
	return at
}

// saidCalled says whether a type is a function's, whose part 0 is the first of these types, and the others its parts behind.
func saidCalled(m api.Module, typeId uint32, types ...uint32) bool {
	return saidIs(m, typeId, "OpTypeFunction") && slices.Equal(saidParts(m, typeId), types)
}

// saidFits says whether the instruction at a place is not asked, or fits.
func saidFits(m api.Module, at int) bool {
	from := saidFunction(m, at)
	if from < 0 {
		return true
	}
	i := m.Insts[at]
	of := func(k int) uint32 { return saidType(m, i.Args[k].N) }
	switch name := saidName(i); name {
	case "OpFunction":
		types := []uint32{i.Type}
		for k := at + 1; saidName(m.Insts[k]) == "OpFunctionParameter"; k++ {
			types = append(types, m.Insts[k].Type)
		}
		return saidCalled(m, i.Args[1].N, types...)
	case "OpFunctionCall":
		name, f := saidMaker(m, i.Args[0].N)
		types := []uint32{i.Type}
		for k := range i.Args[1:] {
			types = append(types, of(k+1))
		}
		return name == "OpFunction" && saidCalled(m, f.Args[1].N, types...)
	case "OpVariable", "OpLoad", "OpStore", "OpAccessChain":
		return saidPlace(m, i, of)
	case "OpVectorExtractDynamic", "OpVectorInsertDynamic", "OpVectorShuffle":
		return saidVector(m, i, of)
	case "OpCompositeConstruct", "OpCompositeExtract", "OpCompositeInsert", "OpCopyObject":
		return saidComposite(m, i, of)
	case "OpPhi":
		for k := 0; k < len(i.Args); k += 2 {
			if of(k) != i.Type {
				return false
			}
		}
		return saidPlain(m, i.Type)
	case "OpBranchConditional":
		return saidIs(m, of(0), "OpTypeBool")
	case "OpSwitch":
		return saidIs(m, of(0), "OpTypeInt")
	case "OpReturn":
		return saidIs(m, m.Insts[from].Type, "OpTypeVoid")
	case "OpReturnValue":
		return saidPlain(m, m.Insts[from].Type) && of(0) == m.Insts[from].Type
	}
	return saidValue(m, i, of)
}

// saidPlace says whether an instruction fits that is about pointers.
func saidPlace(m api.Module, i api.Inst, of func(k int) uint32) bool {
	class, to, is := saidPointer(m, i.Type)
	if name := saidName(i); name == "OpVariable" {
		return is && class == 7 && (len(i.Args) < 2 || saidConstant(m, i.Args[1].N) && of(1) == to)
	}
	itsClass, its, points := saidPointer(m, of(0))
	switch saidName(i) {
	case "OpLoad":
		return points && its == i.Type
	case "OpStore":
		return points && itsClass != 1 && of(1) == its
	}
	came, leads := saidChain(m, its, i.Args[1:])
	return is && points && class == itsClass && leads && came == to
}

// saidVector says whether an instruction fits that is about vectors.
func saidVector(m api.Module, i api.Inst, of func(k int) uint32) bool {
	isVector := func(typeId uint32) bool { return saidIs(m, typeId, "OpTypeVector") }
	isNumber := func(typeId uint32) bool { return saidIs(m, typeId, "OpTypeInt") }
	switch saidName(i) {
	case "OpVectorExtractDynamic":
		return isVector(of(0)) && saidParts(m, of(0))[0] == i.Type && isNumber(of(1))
	case "OpVectorInsertDynamic":
		return isVector(i.Type) && of(0) == i.Type && of(1) == saidParts(m, i.Type)[0] && isNumber(of(2))
	}
	if !isVector(i.Type) || !isVector(of(0)) || !isVector(of(1)) {
		return false
	}
	own, a, b := saidParts(m, i.Type), saidParts(m, of(0)), saidParts(m, of(1))
	for _, n := range i.Args[2:] {
		if uint64(n.N) >= uint64(len(a)+len(b)) {
			return false
		}
	}
	return own[0] == a[0] && own[0] == b[0] && len(own) == len(i.Args)-2
}

// saidComposite says whether an instruction fits that is about parts of values.
func saidComposite(m api.Module, i api.Inst, of func(k int) uint32) bool {
	switch saidName(i) {
	case "OpCompositeConstruct":
		l := saidParts(m, i.Type)
		if !saidIs(m, i.Type, "OpTypeVector", "OpTypeArray", "OpTypeStruct") || len(l) != len(i.Args) {
			return false
		}
		for k := range i.Args {
			if of(k) != l[k] {
				return false
			}
		}
		return true
	case "OpCompositeExtract":
		to, leads := saidPath(m, of(0), i.Args[1:])
		return leads && to == i.Type
	case "OpCompositeInsert":
		to, leads := saidPath(m, i.Type, i.Args[2:])
		return leads && to == of(0) && of(1) == i.Type
	}
	return saidPlain(m, i.Type) && of(0) == i.Type
}

// saidValue says whether an instruction fits that makes a value of numbers and truths.
func saidValue(m api.Module, i api.Inst, of func(k int) uint32) bool {
	alike := func(typeId uint32, places ...int) bool {
		return !slices.ContainsFunc(places, func(k int) bool { return !saidAlike(m, of(k), typeId) })
	}
	truths := func(typeId uint32) bool { return saidRow(m, typeId, "OpTypeBool") }
	numbers := func(typeId uint32) bool { return saidRow(m, typeId, "OpTypeInt") }
	number := func(k int) bool { return saidIs(m, of(k), "OpTypeInt") }
	switch name := saidName(i); name {
	case "OpBitcast", "OpSNegate", "OpNot", "OpBitReverse", "OpBitCount":
		return numbers(i.Type) && alike(i.Type, 0)
	case "OpIAdd", "OpISub", "OpIMul", "OpUDiv", "OpSDiv", "OpUMod", "OpSRem", "OpSMod", "OpShiftRightLogical", "OpShiftRightArithmetic", "OpShiftLeftLogical", "OpBitwiseOr", "OpBitwiseXor", "OpBitwiseAnd":
		return numbers(i.Type) && alike(i.Type, 0, 1)
	case "OpIAddCarry", "OpISubBorrow", "OpUMulExtended", "OpSMulExtended":
		l := saidParts(m, i.Type)
		return saidIs(m, i.Type, "OpTypeStruct") && len(l) == 2 && l[0] == l[1] && numbers(l[0]) && alike(l[0], 0, 1)
	case "OpAny", "OpAll":
		return saidIs(m, i.Type, "OpTypeBool") && saidIs(m, of(0), "OpTypeVector") && truths(of(0))
	case "OpLogicalEqual", "OpLogicalNotEqual", "OpLogicalOr", "OpLogicalAnd":
		return truths(i.Type) && alike(i.Type, 0, 1)
	case "OpLogicalNot":
		return truths(i.Type) && alike(i.Type, 0)
	case "OpSelect":
		return saidIs(m, i.Type, "OpTypeBool", "OpTypeInt", "OpTypeVector") && of(1) == i.Type && of(2) == i.Type && truths(of(0)) && saidWide(m, of(0), i.Type)
	case "OpBitFieldInsert":
		return numbers(i.Type) && alike(i.Type, 0, 1) && number(2) && number(3)
	case "OpBitFieldSExtract", "OpBitFieldUExtract":
		return numbers(i.Type) && alike(i.Type, 0) && number(1) && number(2)
	}
	if 170 <= i.Op && i.Op <= 179 {
		return truths(i.Type) && numbers(of(0)) && saidWide(m, of(0), i.Type) && alike(of(0), 1)
	}
	return true
}

// saidCheck is what Check says of a module.
func saidCheck(m api.Module) api.Spot {
	if _, s := consts.New(m); s.Err != api.OK {
		return s
	}
	for at := range m.Insts {
		if !saidFits(m, at) {
			return typed(at)
		}
	}
	return api.Spot{}
}
