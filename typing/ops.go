package typing

// The operations that are asked, and the one of which a struct's index is made.
const (
	opConstant             = 43
	opFunction             = 54
	opFunctionCall         = 57
	opVariable             = 59
	opLoad                 = 61
	opStore                = 62
	opAccessChain          = 65
	opVectorExtractDynamic = 77
	opVectorInsertDynamic  = 78
	opVectorShuffle        = 79
	opCompositeConstruct   = 80
	opCompositeExtract     = 81
	opCompositeInsert      = 82
	opCopyObject           = 83
	opBitcast              = 124
	opSNegate              = 126
	opIAdd                 = 128
	opISub                 = 130
	opIMul                 = 132
	opUDiv                 = 134
	opSDiv                 = 135
	opUMod                 = 137
	opSRem                 = 138
	opSMod                 = 139
	opIAddCarry            = 149
	opISubBorrow           = 150
	opUMulExtended         = 151
	opSMulExtended         = 152
	opAny                  = 154
	opAll                  = 155
	opLogicalEqual         = 164
	opLogicalNotEqual      = 165
	opLogicalOr            = 166
	opLogicalAnd           = 167
	opLogicalNot           = 168
	opSelect               = 169
	opIEqual               = 170
	opINotEqual            = 171
	opUGreaterThan         = 172
	opSGreaterThan         = 173
	opUGreaterThanEqual    = 174
	opSGreaterThanEqual    = 175
	opULessThan            = 176
	opSLessThan            = 177
	opULessThanEqual       = 178
	opSLessThanEqual       = 179
	opShiftRightLogical    = 194
	opShiftRightArithmetic = 195
	opShiftLeftLogical     = 196
	opBitwiseOr            = 197
	opBitwiseXor           = 198
	opBitwiseAnd           = 199
	opNot                  = 200
	opBitFieldInsert       = 201
	opBitFieldSExtract     = 202
	opBitFieldUExtract     = 203
	opBitReverse           = 204
	opBitCount             = 205
	opPhi                  = 245
	opBranchConditional    = 250
	opSwitch               = 251
	opReturn               = 253
	opReturnValue          = 254
)

// The classes of variables of which something is asked.
const (
	classInput    = 1
	classFunction = 7
)
