package typing

import (
	"slices"
	"strings"
	"testing"

	"intaglio/api"
	"intaglio/code"
	"intaglio/grammar"
	"intaglio/ids"
)

// row is what some operations ask: what stands behind their names where they fit, and where they do not.
type row struct {
	names     string
	fit, fail []string
}

// rows are those of the table whose instructions stand within a function; where something does not fit, just one thing that the row asks does not hold, or what stands there is no type, or has none.
func rows() []row {
	return []row{
		{"OpFunctionCall",
			[]string{"%V %gV", "%I %gI", "%V %gVI %vI", "%V %gVI %sum", "%V %gVIU %vI %usum", "%I %gIPI %pI", "%V %gVA %vA", "%V %main"},
			[]string{"%V %vI", "%V %fV", "%V %l1", "%V %gV1", "%I %gIPIa", "%V %str", "%I %gV", "%V %gI", "%U %gI", "%fI %gI", "%l1 %gI", "%V %gVI", "%V %gV %vI", "%V %gVI %vI %vI", "%V %gVI %vU", "%V %gVI %pI", "%V %gVIU %usum %sum", "%V %gVIU %sum %sum", "%V %gVIU %sum", "%V %gVI %l1", "%V %gVI %I", "%V %gVI %gI", "%V %gVI %call", "%I %gIPI %qI", "%I %gIPI %pU", "%I %gIPI %vI", "%V %gVA %vA_"}},
		{"OpVariable",
			[]string{"%PI Function", "%PI Function %i1", "%PI Function %vI", "%PI Function %nullI", "%PB Function %true", "%PB Function %false", "%PI2 Function %someI2", "%PS Function %vS", "%PD Function"},
			[]string{"%I Function", "%QI Function", "%NI Function", "%OI Function", "%fI Function", "%one Function", "%vI Function", "%l1 Function", "%V Function", "%QI Function %vI", "%PI Function %u1", "%PI Function %vI2", "%PI Function %sum", "%PI Function %pI", "%PI Function %qI", "%PI Function %I", "%PI Function %PI", "%PI Function %l1", "%PI Function %gI", "%PI Function %new", "%PS Function %vS_", "%PI Function %gVIa", "%PI Function %str", "%PI Function %main"}},
		{"OpLoad",
			[]string{"%I %pI", "%S %pS", "%I %nI", "%I %qI", "%I %oI", "%B %pB", "%D %pD", "%I2 %pI2", "%I %gIPIa"},
			[]string{"%U %pI", "%I %pU", "%I %vI", "%I %pS", "%I %vII", "%PI %pI", "%S_ %pS", "%I %l1", "%I %PI", "%I %gI", "%I %fI", "%V %pI", "%V %call", "%l1 %l1", "%main %main", "%vI %pI", "%I %new"}},
		{"OpStore",
			[]string{"%pI %vI", "%pI %i1", "%qI %sum", "%oI %vI", "%pS %vS", "%pB %true", "%pA %vA", "%gIPIa %sum"},
			[]string{"%nI %vI", "%nS %vS", "%vI %vI", "%vII %vI", "%pI %vU", "%pI %vI2", "%pI %pI", "%pI %l1", "%pI %I", "%pI %gI", "%l1 %l1", "%l1 %vI", "%str %str", "%pS %vS_", "%pA %vA_", "%pI %call", "%PI %vI", "%I %vI", "%call %call", "%gI %vI"}},
		{"OpAccessChain",
			[]string{"%PI %pI", "%PS %pS", "%QI %qI", "%PI %pI2 %i1", "%PI %pI2 %sum", "%PI %pI2 %usum", "%PI %pI2 %u3", "%PI %pI2 %i-1", "%PI %pA %vI", "%PI %pA %nullU", "%PI %pA %sum", "%PI %pA1 %u0", "%PI %pA1 %sum", "%PI %pS %u0", "%PI %pS %i0", "%PI2 %pS %u1", "%PI2 %pS %i1", "%PI %pS %u1 %sum", "%PB %pD %i0", "%PI2 %pD %u1 %sum", "%PI %pD %u1 %sum %usum", "%PS %pD %u2", "%PI2 %pD %u2 %u1", "%PI %pD %u2 %u1 %sum", "%PI %pD %u2 %u0", "%QI %qS %u0", "%NI %nS %u0"},
			[]string{"%I %pI", "%I %pI2 %i1", "%fI %pI", "%one %pI", "%V %pI", "%l1 %pI", "%PI %vI", "%PI %vI2 %i1", "%PI %vS %u0", "%PI %l1", "%PI %PI", "%I %vI", "%l1 %l1", "%PI %gI",
				"%QI %pI", "%PI %qI", "%QI %pI2 %i1", "%PI %qS %u0", "%PI %nS %u0", "%OI %nI", "%NI %qS %u0",
				"%PI %pI2 %vB", "%PI %pI2 %vI2", "%PI %pI2 %l1", "%PI %pI2 %I", "%PI %pI2 %pI", "%PI %pA %true", "%PI %pA %vI2", "%PI %pA %str", "%PI %pA %gI",
				"%PI %pS %sum", "%PI %pS %vU", "%PI %pS %nullU", "%PI %pS %nullI", "%PI %pS %true", "%PI %pS %false", "%PI %pS %someI2", "%PI %pS %l1", "%PI %pS %I", "%PI %pS %u2", "%PI2 %pS %u2", "%PI2 %pS %u3", "%PI %pS %i-1", "%PI2 %pS %i-1", "%PS %pD %u3", "%PI2 %pD %u1 %vB",
				"%PI %pI %u0", "%PI %pI %i0", "%PI %pI2 %u0 %u0", "%PI %pS %u0 %u0", "%PB %pB %u0",
				"%PI %pS", "%PI %pS %u1", "%PI2 %pS %u0", "%PS %pS %u0", "%PU %pI2 %u0", "%PI2 %pI2 %u0", "%PI %pI2", "%PI2 %pI", "%PI %pD %u1 %u0", "%PI %pS %u2 %u0"}},
		{"OpVectorExtractDynamic",
			[]string{"%I %vI2 %vU", "%I %vI3 %sum", "%B %vB2 %i1", "%U %vU2 %u3"},
			[]string{"%I %vA %u0", "%I %vII %u0", "%I %pI %u0", "%U %vI2 %u0", "%I %vU2 %u0", "%B %vI2 %u0", "%I %vI %u0", "%I2 %vI2 %u0", "%I %l1 %u0", "%I %I2 %u0", "%I %vI2 %vB", "%I %vI2 %vI2", "%I %vI2 %l1", "%I %vI2 %I", "%I %vI2 %pI", "%l1 %l1 %u0"}},
		{"OpVectorInsertDynamic",
			[]string{"%I2 %vI2 %vI %vU", "%I2 %new %sum %vI", "%B3 %vB3 %true %sum"},
			[]string{"%A %vA %vI %u0", "%I %vI %vI %u0", "%II %vII %vI %u0", "%PI %pI %vI %u0", "%l1 %l1 %l1 %u0", "%I %vI %l1 %u0", "%I2 %vI3 %vI %u0", "%I2 %vU2 %vI %u0", "%I2 %vA %vI %u0", "%I2 %l1 %vI %u0", "%I2 %I2 %vI %u0", "%I2 %vI2 %vU %u0", "%I2 %vI2 %vB %u0", "%I2 %vI2 %vI2 %u0", "%I2 %vI2 %l1 %u0", "%I2 %vI2 %I %u0", "%I2 %vI2 %vI %vB", "%I2 %vI2 %vI %vI2", "%I2 %vI2 %vI %l1", "%I2 %vI2 %vI %I"}},
		{"OpVectorShuffle",
			[]string{"%I2 %vI2 %vI2 3 0", "%I3 %vI2 %vI4 0 5 5", "%B2 %vB2 %vB3 4 0", "%I2 %vI3 %vI2 4 4", "%I4 %vI2 %vI2 0 1 2 3", "%I2 %new %vI4 5 5"},
			[]string{"%A %vI2 %vI2 0 1", "%I %vI2 %vI2 0", "%II %vI2 %vI2 0 1", "%V %vI2 %vI2", "%l1 %l1 %l1", "%I2 %vA %vI2 0 1", "%I2 %vI2 %vA 0 1", "%I2 %vI %vI2 0 1", "%I2 %vI2 %vI 0 1", "%I2 %l1 %vI2 0 1", "%I2 %vI2 %l1 0 1", "%I2 %vI2 %I2 0 1", "%U2 %vI2 %vI2 0 1", "%I2 %vU2 %vI2 0 1", "%I2 %vI2 %vU2 0 1", "%I2 %vU2 %vU2 0 1", "%B2 %vI2 %vI2 0 1",
				"%I2 %vI2 %vI2 0", "%I2 %vI2 %vI2 0 1 2", "%I2 %vI2 %vI2", "%I2 %vI2 %vI2 4 0", "%I2 %vI2 %vI2 0 4", "%I2 %vI2 %vI2 0 4294967295", "%I2 %vI2 %vI2 2147483648 0", "%I2 %vI2 %vI3 0 5", "%I2 %vI3 %vI2 5 0", "%I4 %vI2 %vI2 0 0 4 0"}},
		{"OpCompositeConstruct",
			[]string{"%I2 %vI %sum", "%A %vI %i1", "%S %vI %vI2", "%B3 %true %vB %false", "%one %sum", "%A1 %sum", "%AA %vA %vA", "%A3 %vI2 %someI2 %vI2"},
			[]string{"%I %vI", "%I", "%B %vB", "%V", "%V %vI", "%PI %vI", "%fI %vI", "%fV %call", "%l1", "%vI %vI", "%main", "%I2 %vI", "%I2 %vI %vI %vI", "%I2", "%I2 %vU %vI", "%I2 %vI %vU", "%I4 %vI2 %vI2", "%S %vI2 %vI", "%S %vI", "%S %vI %vI2 %vI", "%S", "%S %vI %vU2", "%SS %vS %vS_", "%AA %vA_ %vA", "%I2 %vI %l1", "%I2 %l1 %l1", "%I2 %I %I", "%one %gI", "%A %vI %vI %vI", "%A %vI"}},
		{"OpCompositeExtract",
			[]string{"%I %vS 0", "%I2 %vS 1", "%I %vS 1 1", "%S %vS", "%I %vI", "%B %true", "%I %vD 1 2 1", "%I2 %vD 2 1", "%S %vD 2", "%I %vI2 1", "%I %vA 1", "%I %vA1 0", "%D %vD"},
			[]string{"%I %pI 0", "%PI %pI", "%V %call", "%I %call", "%I %fI 0", "%I %gI", "%I %l1", "%I %I", "%l1 %l1", "%I %one 0", "%I %vS 2", "%I %vS 1 2", "%I %vI 0", "%I %vS 0 0", "%I %vS 4294967295", "%I %vI2 2", "%I %vA 2", "%I %vA1 1", "%B %vB 0", "%I %vS 1", "%I %vS", "%U %vS 0", "%I2 %vS 0", "%S_ %vS", "%A_ %vA", "%I %vU", "%I %vS 2 0", "%I %vD 1 3 0", "%I %vD 3", "%I %vI2 2147483648"}},
		{"OpCompositeInsert",
			[]string{"%S %vI %vS 0", "%S %vI2 %vS 1", "%S %sum %vS 1 1", "%I %vI %sum", "%S %vS %vS", "%D %vI %vD 1 2 1", "%A %vI %vA 1", "%B2 %true %vB2 0", "%D %vS %vD 2"},
			[]string{"%PI %vI %pI 0", "%PI %pI %pI", "%V %call %call", "%l1 %l1 %l1", "%fI %vI %vI 0", "%S %vI %vS_ 0", "%S %vI %vI 0", "%S %vI %l1 0", "%S %vI %S 0", "%S %vI %vD 2 0", "%S %vI %vS 2", "%S %vI2 %vS 2", "%S %l1 %vS 2", "%S %gI %vS 1 2", "%S %vI %vS 1", "%S %vI2 %vS 0", "%S %vU %vS 0", "%S %vI %vS", "%S %vS_ %vS", "%S %l1 %vS 0", "%S %I %vS 0", "%I %vI %vI 0", "%I2 %vI %vI2 2", "%I2 %vI %vI2 4294967295", "%A %vI %vA_ 0", "%S %vI %vS 0 0"}},
		{"OpCopyObject",
			[]string{"%I %vI", "%I %sum", "%D %vD", "%S %vS", "%B2 %vB2", "%I %new"},
			[]string{"%PI %pI", "%V %call", "%PI %vI", "%fI %vI", "%l1 %l1", "%I %vU", "%I %vI2", "%S %vS_", "%A %vA_", "%I %l1", "%I %I", "%I %gI", "%vI %vI", "%I %pI"}},
		{"OpBitcast OpSNegate OpNot OpBitReverse OpBitCount",
			[]string{"%I %vI", "%I %vU", "%U %vI", "%U %usum", "%I2 %vU2", "%U2 %vI2", "%I4 %vI4", "%I %new"},
			[]string{"%B %vB", "%B2 %vB2", "%A %vA", "%S %vS", "%one %vII", "%AA %vAA", "%PI %pI", "%V %call", "%l1 %l1", "%I %vB", "%I %vI2", "%I2 %vI", "%I2 %vI3", "%I2 %vB2", "%I2 %vA", "%I2 %vII", "%I %pI", "%I %l1", "%I %I", "%I %gI"}},
		{"OpIAdd OpISub OpIMul OpUDiv OpSDiv OpUMod OpSRem OpSMod OpShiftRightLogical OpShiftRightArithmetic OpShiftLeftLogical OpBitwiseOr OpBitwiseXor OpBitwiseAnd",
			[]string{"%I %vI %vU", "%I %vU %vI", "%U %vI %sum", "%I2 %vI2 %vU2", "%U2 %vI2 %someI2", "%I3 %vI3 %vI3", "%I %new %new"},
			[]string{"%B %vB %vB", "%B2 %vB2 %vB2", "%A %vA %vA", "%S %vS %vS", "%PI %pI %pI", "%V %call %call", "%l1 %l1 %l1", "%I %vB %vI", "%I %vI %vB", "%I2 %vI %vI2", "%I2 %vI2 %vI", "%I %vI2 %vI2", "%I2 %vI3 %vI2", "%I2 %vI2 %vI3", "%I2 %vB2 %vI2", "%I2 %vI2 %vB2", "%I2 %vA %vI2", "%I2 %vI2 %vA", "%I %l1 %vI", "%I %vI %l1", "%I %I %vI", "%I %vI %I", "%I %pI %vI", "%I %vI %gI"}},
		{"OpIAddCarry OpISubBorrow OpUMulExtended OpSMulExtended",
			[]string{"%II %vI %vU", "%UU %sum %vI", "%I2I2 %vI2 %vU2", "%II %vU %vU"},
			[]string{"%IU %vI %vI", "%BB %vB %vB", "%III %vI %vI", "%A %vI %vI", "%I2 %vI %vI", "%AA %vA %vA", "%SS %vS %vS", "%I %vI %vI", "%one %vI %vI", "%S %vI %vI", "%PI %vI %vI", "%fI %vI %vI", "%V %vI %vI", "%l1 %l1 %l1", "%II %vB %vI", "%II %vI %vB", "%II %vI2 %vI", "%II %vI %vI2", "%I2I2 %vI %vI2", "%I2I2 %vI2 %vI", "%I2I2 %vI2 %vI3", "%I2I2 %vI3 %vI2", "%II %l1 %vI", "%II %vI %l1", "%II %vII %vII", "%II %vI %I"}},
		{"OpAny OpAll",
			[]string{"%B %vB2", "%B %vB3"},
			[]string{"%I %vB2", "%U %vB2", "%B2 %vB2", "%B3 %vB2", "%V %vB2", "%l1 %vB2", "%B %vB", "%B %vI", "%B %vI2", "%B %vAB", "%B %vBB", "%B %pB", "%B %l1", "%B %B2", "%B %gI", "%B %call"}},
		{"OpLogicalEqual OpLogicalNotEqual OpLogicalOr OpLogicalAnd",
			[]string{"%B %vB %true", "%B %false %new", "%B2 %vB2 %vB2", "%B3 %vB3 %vB3"},
			[]string{"%I %vI %vI", "%I2 %vI2 %vI2", "%AB %vAB %vAB", "%BB %vBB %vBB", "%PB %pB %pB", "%l1 %l1 %l1", "%B %vI %vB", "%B %vB %vI", "%B %vB2 %vB", "%B %vB %vB2", "%B2 %vB %vB2", "%B2 %vB2 %vB", "%B2 %vB3 %vB2", "%B2 %vB2 %vB3", "%B2 %vI2 %vB2", "%B2 %vB2 %vI2", "%B2 %vAB %vB2", "%B2 %vB2 %vAB", "%B %l1 %vB", "%B %vB %l1", "%B %B %vB", "%B %vB %gI"}},
		{"OpLogicalNot",
			[]string{"%B %vB", "%B %new", "%B2 %vB2", "%B3 %vB3"},
			[]string{"%I %vI", "%I2 %vI2", "%AB %vAB", "%BB %vBB", "%PB %pB", "%l1 %l1", "%B %vI", "%B %vB2", "%B2 %vB", "%B2 %vB3", "%B2 %vI2", "%B2 %vAB", "%B %l1", "%B %B", "%B %gI"}},
		{"OpSelect",
			[]string{"%I %vB %vI %sum", "%B %vB %vB %true", "%I2 %vB2 %vI2 %someI2", "%B2 %vB2 %vB2 %vB2", "%I3 %vB3 %vI3 %new", "%U %false %vU %vU"},
			[]string{"%S %vB %vS %vS", "%A %vB %vA %vA", "%AB %vB2 %vAB %vAB", "%PI %vB %pI %pI", "%V %vB %call %call", "%fI %vB %vI %vI", "%l1 %vB %l1 %l1",
				"%I2 %vB %vI2 %vI2", "%I %vB2 %vI %vI", "%I2 %vB3 %vI2 %vI2", "%I3 %vB2 %vI3 %vI3", "%I %vI %vI %vI", "%I2 %vI2 %vI2 %vI2", "%I2 %vAB %vI2 %vI2", "%I %vAB %vI %vI", "%I2 %vBB %vI2 %vI2", "%I %l1 %vI %vI", "%I %B %vI %vI", "%I %pB %vI %vI",
				"%I %vB %vU %vI", "%I %vB %vI %vU", "%I2 %vB2 %vU2 %vI2", "%I2 %vB2 %vI2 %vU2", "%I2 %vB2 %vI %vI2", "%I2 %vB2 %vI2 %vI", "%I %vB %l1 %vI", "%I %vB %vI %l1", "%I %vB %I %I", "%I %vB %vI %gI"}},
		{"OpIEqual OpINotEqual OpUGreaterThan OpSGreaterThan OpUGreaterThanEqual OpSGreaterThanEqual OpULessThan OpSLessThan OpULessThanEqual OpSLessThanEqual",
			[]string{"%B %vI %vU", "%B %vU %vU", "%B %sum %vI", "%B2 %vI2 %vU2", "%B2 %vU2 %someI2", "%B3 %vI3 %vI3"},
			[]string{"%I %vI %vI", "%I2 %vI2 %vI2", "%AB %vI2 %vI2", "%AB %vI %vI", "%BB %vI2 %vI2", "%V %vI %vI", "%l1 %vI %vI", "%B %vB %vB", "%B2 %vB2 %vB2", "%B2 %vI %vI", "%B %vI2 %vI2", "%B2 %vI3 %vI3", "%B3 %vI2 %vI2", "%B2 %vA %vA", "%B %vA %vA", "%B %vII %vII", "%B %pI %pI", "%B %l1 %l1", "%B %vI %vB", "%B %vI %vI2", "%B %vI2 %vI", "%B2 %vI2 %vI3", "%B2 %vI2 %vI", "%B2 %vI2 %vA", "%B2 %vI2 %vB2", "%B %vB %vI", "%B %vI %l1", "%B %l1 %vI", "%B %vI %I", "%B %vI %gI"}},
		{"OpBitFieldInsert",
			[]string{"%I %vI %vU %vU %vI", "%U %vI %sum %usum %u1", "%I2 %vU2 %vI2 %vU %vI"},
			[]string{"%B %vB %vB %vU %vU", "%B2 %vB2 %vB2 %vU %vU", "%A %vA %vA %vU %vU", "%l1 %l1 %l1 %vU %vU", "%I %vB %vI %vU %vU", "%I %vI2 %vI %vU %vU", "%I2 %vI %vI2 %vU %vU", "%I %l1 %vI %vU %vU", "%I %vI %vB %vU %vU", "%I %vI %vI2 %vU %vU", "%I2 %vI2 %vI %vU %vU", "%I %vI %l1 %vU %vU", "%I2 %vI2 %vI2 %vI2 %vI", "%I2 %vI2 %vI2 %vI %vI2", "%I %vI %vI %vB %vI", "%I %vI %vI %vI %vB", "%I %vI %vI %l1 %vI", "%I %vI %vI %vI %l1", "%I %vI %vI %I %vI", "%I %vI %vI %vI %pI"}},
		{"OpBitFieldSExtract OpBitFieldUExtract",
			[]string{"%I %vI %vU %vI", "%I %vU %sum %usum", "%I2 %vU2 %vU %vI", "%U2 %vI2 %i1 %u1"},
			[]string{"%B %vB %vU %vU", "%B2 %vB2 %vU %vU", "%A %vA %vU %vU", "%l1 %l1 %vU %vU", "%I %vB %vU %vU", "%I %vI2 %vU %vU", "%I2 %vI %vU %vU", "%I2 %vI3 %vU %vU", "%I %l1 %vU %vU", "%I2 %vI2 %vI2 %vI", "%I2 %vI2 %vI %vI2", "%I %vI %vB %vI", "%I %vI %vI %vB", "%I %vI %l1 %vI", "%I %vI %vI %l1", "%I %vI %vI %I", "%I %vI %gI %vI"}},
		{"OpPhi",
			[]string{"%I", "%D", "%I %sum %l1", "%I %vI %l1 %sum %l2", "%I %new %l1", "%S %vS %l1", "%B2 %vB2 %l1 %vB2 %l1 %vB2 %gV1", "%I %vI %vI", "%I %vI %vU", "%I %vI %main"},
			[]string{"%PI", "%V", "%fI", "%l1", "%vI", "%PI %pI %l1", "%V %call %l1", "%l1 %l1 %l1", "%I %vU %l1", "%I %vI2 %l1", "%S %vS_ %l1", "%I %vU %l1 %vI %l2", "%I %vI %l1 %vU %l2", "%I %vI %l1 %vI %l2 %vU %l1", "%I %vU %l1 %vI %l1 %vI %l1", "%I %l1 %l1", "%I %l1 %vI", "%I %I %l1", "%I %pI %l1", "%I %gI %l1"}},
		{"OpBranchConditional",
			[]string{"%vB %l2 %l2", "%true %l2 %l2", "%vB %l1 %l1", "%vB %vI %I"},
			[]string{"%vI %l2 %l2", "%vU %l2 %l2", "%vB2 %l2 %l2", "%vBB %l2 %l2", "%vAB %l2 %l2", "%l2 %l2 %l2", "%B %l2 %l2", "%pB %l2 %l2", "%gI %l2 %l2", "%call %l2 %l2"}},
		{"OpSwitch",
			[]string{"%vI %l2", "%sum %l2 1 %l2", "%vU %l2 1 %l2 2 %l2", "%vI %vB 7 %main"},
			[]string{"%vB %l2", "%vI2 %l2", "%vII %l2 1 %l2", "%vA %l2", "%l2 %l2", "%I %l2", "%pI %l2", "%gI %l2", "%call %l2"}},
		{"OpReturn", []string{""}, nil},
		{"OpReturnValue", nil, []string{"%vI", "%call", "%l1", "%vS", "%pI"}},
	}
}

// P18.1, P18.2: each row of the table, where its instructions fit, and where one thing is otherwise.
func TestRows(t *testing.T) {
	for _, r := range rows() {
		for _, name := range strings.Fields(r.names) {
			for _, args := range r.fit {
				holdLine(t, strings.TrimSpace(name+" "+args), true)
			}
			for _, args := range r.fail {
				holdLine(t, strings.TrimSpace(name+" "+args), false)
			}
		}
	}
}

// P18.2, P18.4: what an instruction names, and a number's type, may have whatever id, the first one and the last below the bound among them.
func TestRowsRenamed(t *testing.T) {
	for _, r := range rows() {
		name := strings.Fields(r.names)[0]
		for k, args := range slices.Concat(r.fit, r.fail) {
			line := strings.TrimSpace(name + " " + args)
			m := host(line)
			for _, id := range append(code.Ids(m.Insts[m.at]), m.named["I"]) {
				for _, as := range []uint32{1, m.Bound - 1} {
					if is, s := Fits(swapped(m.Module, id, as), m.at); is != (k < len(r.fit)) || s != (api.Spot{}) {
						t.Errorf("Fits of %s with %d as %d: %v, %v", line, id, as, is, s)
					}
				}
			}
		}
	}
}

// swapped is a module with two of its ids in each other's place.
func swapped(m api.Module, a, b uint32) api.Module {
	to := make([]uint32, m.Bound)
	for id := range to {
		to[id] = uint32(id)
	}
	to[a], to[b] = b, a
	other, s := ids.Rename(m, to)
	if s.Err != api.OK {
		panic("ids that can't be renamed")
	}
	return other
}

// notAsked are the operations of functions that are not in the table.
var notAsked = []string{"OpFunctionParameter", "OpFunctionEnd", "OpLabel", "OpLoopMerge", "OpSelectionMerge", "OpBranch", "OpKill", "OpUnreachable"}

// Each operation of functions is in the rows here, or is not in the table, or is OpFunction, which has a test of its own.
func TestAllRows(t *testing.T) {
	var named []string
	for _, r := range rows() {
		named = append(named, strings.Fields(r.names)...)
	}
	named = append(named, notAsked...)
	for f := range grammar.All() {
		is := f.Part == 8 || f.Name == "OpVariable"
		if f.Name != "OpFunction" && is != slices.Contains(named, f.Name) {
			t.Errorf("%s is asked: %v", f.Name, is)
		}
	}
}

// P18.1, P18.2: what is not in the table fits, whatever stands there.
func TestNotInTable(t *testing.T) {
	for _, line := range []string{"OpLoopMerge %l2 %l2 None", "OpLoopMerge %vI %I None", "OpSelectionMerge %l2 None", "OpSelectionMerge %pI None", "OpBranch %l2", "OpBranch %vI", "OpBranch %main", "OpKill", "OpUnreachable"} {
		holdLine(t, line, true)
	}
	// Of a parameter nothing is asked where it stands, of a function's type all that it says is asked at the OpFunction.
	for _, p := range []string{"%I", "%V", "%l1", "%vI", "%main", "%fI"} {
		r := fun("OpFunction %V None %fVI", []string{p}, "OpReturn")
		at := slices.IndexFunc(r.Insts, func(i api.Inst) bool { return i.Result == r.named["a0"] })
		for _, place := range []int{at, at + 1} {
			r.at = place
			holdFits(t, r, true, "OpFunctionParameter "+p)
		}
		r.at = at - 1
		holdFits(t, r, p == "%I", "OpFunction of a parameter "+p)
	}
}

// P18.1, P18.2: OpFunction.
func TestFunction(t *testing.T) {
	for _, c := range []struct {
		line       string
		parameters string
		last       string
		is         bool
	}{
		{"%V None %fV", "", "OpReturn", true},
		{"%I None %fI", "", "OpReturnValue %vI", true},
		{"%V None %fVI", "%I", "OpReturn", true},
		{"%V Inline %fVIU", "%I %U", "OpReturn", true},
		{"%I None %fIPI", "%PI", "OpReturnValue %vI", true},
		{"%V None %fVA", "%A", "OpReturn", true},
		// No function's type, though some have T as their part 0.
		{"%V None %V", "", "OpReturn", false},
		{"%V None %I", "", "OpReturn", false},
		{"%I None %PI", "", "OpReturnValue %vI", false},
		{"%I None %one", "", "OpReturnValue %vI", false},
		{"%I None %II", "%I", "OpReturnValue %vI", false},
		{"%I None %A", "%I", "OpReturnValue %vI", false},
		{"%I None %I2", "%I", "OpReturnValue %vI", false},
		{"%V None %l1", "", "OpReturn", false},
		{"%V None %main", "", "OpReturn", false},
		{"%I None %vI", "", "OpReturnValue %vI", false},
		{"%V None %gV", "", "OpReturn", false},
		// Another part 0.
		{"%V None %fI", "", "OpReturn", false},
		{"%I None %fV", "", "OpReturnValue %vI", false},
		{"%U None %fI", "", "OpReturnValue %vU", false},
		{"%fV None %fV", "", "OpKill", false},
		{"%l1 None %fV", "", "OpKill", false},
		// Too few parameters, too many, others.
		{"%V None %fVI", "", "OpReturn", false},
		{"%V None %fVIU", "%I", "OpReturn", false},
		{"%V None %fV", "%I", "OpReturn", false},
		{"%V None %fVI", "%I %I", "OpReturn", false},
		{"%V None %fVIU", "%I %U %U", "OpReturn", false},
		{"%V None %fVI", "%U", "OpReturn", false},
		{"%V None %fVI", "%I2", "OpReturn", false},
		{"%V None %fVIU", "%U %I", "OpReturn", false},
		{"%V None %fVIU", "%I %I", "OpReturn", false},
		{"%V None %fVIU", "%U %U", "OpReturn", false},
		{"%I None %fIPI", "%QI", "OpReturnValue %vI", false},
		{"%I None %fIPI", "%I", "OpReturnValue %vI", false},
		{"%V None %fVA", "%A_", "OpReturn", false},
		{"%V None %fVI", "%vI", "OpReturn", false},
		{"%V None %fVI", "%l1", "OpReturn", false},
	} {
		r := fun("> OpFunction "+c.line, strings.Fields(c.parameters), c.last)
		holdFits(t, r, c.is, c.line+" with "+c.parameters)
		want := api.Spot{}
		if !c.is {
			want = typed(r.at)
		}
		if s := Check(r.Module); s != want {
			t.Errorf("Check of %s with %s: %v; not %v", c.line, c.parameters, s, want)
		}
	}
}

// P18.1, P18.2: OpReturn and OpReturnValue, which ask the Type of their own OpFunction, whatever its second argument says.
func TestReturns(t *testing.T) {
	for _, c := range []struct {
		of, last string
		is       bool
	}{
		{"%V", "OpReturn", true},
		{"%I", "OpReturn", false},
		{"%S", "OpReturn", false},
		{"%fV", "OpReturn", false},
		{"%PI", "OpReturn", false},
		{"%l1", "OpReturn", false},
		{"%call", "OpReturn", false},
		{"%main", "OpReturn", false},
		{"%I", "OpReturnValue %vI", true},
		{"%I", "OpReturnValue %sum", true},
		{"%I", "OpReturnValue %i1", true},
		{"%B", "OpReturnValue %true", true},
		{"%S", "OpReturnValue %vS", true},
		{"%D", "OpReturnValue %vD", true},
		{"%I", "OpReturnValue %vU", false},
		{"%U", "OpReturnValue %vI", false},
		{"%I", "OpReturnValue %vI2", false},
		{"%S", "OpReturnValue %vS_", false},
		{"%I", "OpReturnValue %pI", false},
		{"%I", "OpReturnValue %l1", false},
		{"%I", "OpReturnValue %I", false},
		{"%I", "OpReturnValue %gI", false},
		{"%I", "OpReturnValue %main", false},
		{"%V", "OpReturnValue %call", false},
		{"%V", "OpReturnValue %vI", false},
		{"%PI", "OpReturnValue %pI", false},
		{"%l1", "OpReturnValue %l1", false},
		{"%fV", "OpReturnValue %vI", false},
	} {
		for _, its := range []string{"%fV", "%fI", "%PI", "%l1"} {
			r := fun("OpFunction "+c.of+" None "+its, nil, "> "+c.last)
			holdFits(t, r, c.is, c.last+" in a function of "+c.of)
		}
	}
}

// odd are functions that do not fit.
const odd = "%odd = OpFunction %U None %fI\n%odd1 = OpLabel\nOpKill\nOpFunctionEnd\n" +
	"%more = OpFunction %V None %fVI\n%more0 = OpFunctionParameter %U\n%more1 = OpLabel\nOpKill\nOpFunctionEnd\n" +
	"%none = OpFunction %I None %PI\n%none1 = OpLabel\nOpKill\nOpFunctionEnd\n" +
	"%members = OpFunction %I None %II\n%members0 = OpFunctionParameter %I\n%members1 = OpLabel\nOpKill\nOpFunctionEnd\n" +
	"%value = OpFunction %V None %vI\n%value1 = OpLabel\nOpKill\nOpFunctionEnd"

// P18.1, P18.2: a call asks the type that the called function's second argument names, not what that function is otherwise.
func TestCallsOfWhatDoesNotFit(t *testing.T) {
	for _, c := range []struct {
		line string
		is   bool
	}{
		{"%I %odd", true},
		{"%U %odd", false},
		{"%V %more %vI", true},
		{"%V %more %vU", false},
		{"%V %more", false},
		{"%I %none", false},
		{"%I %members", false},
		{"%I %members %vI", false},
		{"%V %value", false},
	} {
		r := host("OpFunctionCall "+c.line, strings.Split(odd, "\n")...)
		holdFits(t, r, c.is, "OpFunctionCall "+c.line)
	}
}
