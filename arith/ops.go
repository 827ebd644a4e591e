package arith

// The operations of one word.
const (
	opCopyObject = 83
	opBitcast    = 124
	opSNegate    = 126
	opLogicalNot = 168
	opNot        = 200
	opBitReverse = 204
	opBitCount   = 205
)

// Those of two.
const (
	opIAdd                 = 128
	opISub                 = 130
	opIMul                 = 132
	opUDiv                 = 134
	opSDiv                 = 135
	opUMod                 = 137
	opSRem                 = 138
	opSMod                 = 139
	opLogicalEqual         = 164
	opLogicalNotEqual      = 165
	opLogicalOr            = 166
	opLogicalAnd           = 167
	opIEqual               = 170
	opINotEqual            = 171
	opUGreaterThan         = 172
	opSGreaterThan         = 173
	opUGreaterThanEqual    = 174
	opSGreaterThanEqual    = 175
	opULessThan            = 176
	opSLessThan            = 177
	opULessThanEqual       = 178
	opSLessThanEqual       = 179
	opShiftRightLogical    = 194
	opShiftRightArithmetic = 195
	opShiftLeftLogical     = 196
	opBitwiseOr            = 197
	opBitwiseXor           = 198
	opBitwiseAnd           = 199
)

// Those of two, with two answers.
const (
	opIAddCarry    = 149
	opISubBorrow   = 150
	opUMulExtended = 151
	opSMulExtended = 152
)

// Those of three and four.
const (
	opSelect           = 169
	opBitFieldInsert   = 201
	opBitFieldSExtract = 202
	opBitFieldUExtract = 203
)

// Those of a row.
const (
	opAny = 154
	opAll = 155
)

// within says whether an operation is one of those from one to another one, these among them.
func within(op, from, to uint16) bool { return from <= op && op <= to }
