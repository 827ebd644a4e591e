package grammar

import "intaglio/api"

// row is a row of the chapter's table of forms.
type row struct {
	Op           uint16
	Name         string
	Type, Result bool
	Fixed, Rest  string
	Most         int
	Part         uint8
}

// table is the chapter's table of forms.
func table() []api.Form {
	var l []api.Form
	for _, r := range []row{
		{1, "OpUndef", true, true, "", "", 0, 7},
		{3, "OpSource", false, false, "ln", "", 0, 4},
		{5, "OpName", false, false, "is", "", 0, 5},
		{6, "OpMemberName", false, false, "ins", "", 0, 5},
		{7, "OpString", false, true, "s", "", 0, 4},
		{14, "OpMemoryModel", false, false, "am", "", 0, 1},
		{15, "OpEntryPoint", false, false, "eis", "i", 0, 2},
		{16, "OpExecutionMode", false, false, "ix", "", 0, 3},
		{17, "OpCapability", false, false, "k", "", 0, 0},
		{19, "OpTypeVoid", false, true, "", "", 0, 7},
		{20, "OpTypeBool", false, true, "", "", 0, 7},
		{21, "OpTypeInt", false, true, "nn", "", 0, 7},
		{23, "OpTypeVector", false, true, "in", "", 0, 7},
		{28, "OpTypeArray", false, true, "ii", "", 0, 7},
		{30, "OpTypeStruct", false, true, "", "i", 0, 7},
		{32, "OpTypePointer", false, true, "ci", "", 0, 7},
		{33, "OpTypeFunction", false, true, "i", "i", 0, 7},
		{41, "OpConstantTrue", true, true, "", "", 0, 7},
		{42, "OpConstantFalse", true, true, "", "", 0, 7},
		{43, "OpConstant", true, true, "n", "", 0, 7},
		{44, "OpConstantComposite", true, true, "", "i", 0, 7},
		{46, "OpConstantNull", true, true, "", "", 0, 7},
		{54, "OpFunction", true, true, "fi", "", 0, 8},
		{55, "OpFunctionParameter", true, true, "", "", 0, 8},
		{56, "OpFunctionEnd", false, false, "", "", 0, 8},
		{57, "OpFunctionCall", true, true, "i", "i", 0, 8},
		{59, "OpVariable", true, true, "c", "i", 1, 7},
		{61, "OpLoad", true, true, "i", "", 0, 8},
		{62, "OpStore", false, false, "ii", "", 0, 8},
		{65, "OpAccessChain", true, true, "i", "i", 0, 8},
		{71, "OpDecorate", false, false, "id", "n", 0, 6},
		{77, "OpVectorExtractDynamic", true, true, "ii", "", 0, 8},
		{78, "OpVectorInsertDynamic", true, true, "iii", "", 0, 8},
		{79, "OpVectorShuffle", true, true, "ii", "n", 0, 8},
		{80, "OpCompositeConstruct", true, true, "", "i", 0, 8},
		{81, "OpCompositeExtract", true, true, "i", "n", 0, 8},
		{82, "OpCompositeInsert", true, true, "ii", "n", 0, 8},
		{83, "OpCopyObject", true, true, "i", "", 0, 8},
		{124, "OpBitcast", true, true, "i", "", 0, 8},
		{126, "OpSNegate", true, true, "i", "", 0, 8},
		{128, "OpIAdd", true, true, "ii", "", 0, 8},
		{130, "OpISub", true, true, "ii", "", 0, 8},
		{132, "OpIMul", true, true, "ii", "", 0, 8},
		{134, "OpUDiv", true, true, "ii", "", 0, 8},
		{135, "OpSDiv", true, true, "ii", "", 0, 8},
		{137, "OpUMod", true, true, "ii", "", 0, 8},
		{138, "OpSRem", true, true, "ii", "", 0, 8},
		{139, "OpSMod", true, true, "ii", "", 0, 8},
		{149, "OpIAddCarry", true, true, "ii", "", 0, 8},
		{150, "OpISubBorrow", true, true, "ii", "", 0, 8},
		{151, "OpUMulExtended", true, true, "ii", "", 0, 8},
		{152, "OpSMulExtended", true, true, "ii", "", 0, 8},
		{154, "OpAny", true, true, "i", "", 0, 8},
		{155, "OpAll", true, true, "i", "", 0, 8},
		{164, "OpLogicalEqual", true, true, "ii", "", 0, 8},
		{165, "OpLogicalNotEqual", true, true, "ii", "", 0, 8},
		{166, "OpLogicalOr", true, true, "ii", "", 0, 8},
		{167, "OpLogicalAnd", true, true, "ii", "", 0, 8},
		{168, "OpLogicalNot", true, true, "i", "", 0, 8},
		{169, "OpSelect", true, true, "iii", "", 0, 8},
		{170, "OpIEqual", true, true, "ii", "", 0, 8},
		{171, "OpINotEqual", true, true, "ii", "", 0, 8},
		{172, "OpUGreaterThan", true, true, "ii", "", 0, 8},
		{173, "OpSGreaterThan", true, true, "ii", "", 0, 8},
		{174, "OpUGreaterThanEqual", true, true, "ii", "", 0, 8},
		{175, "OpSGreaterThanEqual", true, true, "ii", "", 0, 8},
		{176, "OpULessThan", true, true, "ii", "", 0, 8},
		{177, "OpSLessThan", true, true, "ii", "", 0, 8},
		{178, "OpULessThanEqual", true, true, "ii", "", 0, 8},
		{179, "OpSLessThanEqual", true, true, "ii", "", 0, 8},
		{194, "OpShiftRightLogical", true, true, "ii", "", 0, 8},
		{195, "OpShiftRightArithmetic", true, true, "ii", "", 0, 8},
		{196, "OpShiftLeftLogical", true, true, "ii", "", 0, 8},
		{197, "OpBitwiseOr", true, true, "ii", "", 0, 8},
		{198, "OpBitwiseXor", true, true, "ii", "", 0, 8},
		{199, "OpBitwiseAnd", true, true, "ii", "", 0, 8},
		{200, "OpNot", true, true, "i", "", 0, 8},
		{201, "OpBitFieldInsert", true, true, "iiii", "", 0, 8},
		{202, "OpBitFieldSExtract", true, true, "iii", "", 0, 8},
		{203, "OpBitFieldUExtract", true, true, "iii", "", 0, 8},
		{204, "OpBitReverse", true, true, "i", "", 0, 8},
		{205, "OpBitCount", true, true, "i", "", 0, 8},
		{245, "OpPhi", true, true, "", "ii", 0, 8},
		{246, "OpLoopMerge", false, false, "iig", "", 0, 8},
		{247, "OpSelectionMerge", false, false, "ih", "", 0, 8},
		{248, "OpLabel", false, true, "", "", 0, 8},
		{249, "OpBranch", false, false, "i", "", 0, 8},
		{250, "OpBranchConditional", false, false, "iii", "", 0, 8},
		{251, "OpSwitch", false, false, "ii", "ni", 0, 8},
		{252, "OpKill", false, false, "", "", 0, 8},
		{253, "OpReturn", false, false, "", "", 0, 8},
		{254, "OpReturnValue", false, false, "i", "", 0, 8},
		{255, "OpUnreachable", false, false, "", "", 0, 8},
	} {
		l = append(l, api.Form(r))
	}
	return l
}

// enumerant is an entry of the chapter's table of enumerants.
type enumerant struct {
	n    uint32
	name string
}

// enumerants is the chapter's table of them, by their letters.
func enumerants() map[byte][]enumerant {
	return map[byte][]enumerant{
		'k': {{0, "Matrix"}, {1, "Shader"}},
		'a': {{0, "Logical"}},
		'm': {{0, "Simple"}, {1, "GLSL450"}},
		'e': {{0, "Vertex"}, {4, "Fragment"}},
		'x': {{7, "OriginUpperLeft"}},
		'l': {{0, "Unknown"}, {1, "ESSL"}, {2, "GLSL"}},
		'c': {{1, "Input"}, {3, "Output"}, {6, "Private"}, {7, "Function"}},
		'd': {{0, "RelaxedPrecision"}, {11, "BuiltIn"}, {14, "Flat"}, {30, "Location"}},
		'f': {{0, "None"}, {1, "Inline"}, {2, "DontInline"}, {4, "Pure"}, {8, "Const"}},
		'h': {{0, "None"}, {1, "Flatten"}, {2, "DontFlatten"}},
		'g': {{0, "None"}, {1, "Unroll"}, {2, "DontUnroll"}},
	}
}
