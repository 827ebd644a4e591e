package typing

import "intaglio/api"

// fits says whether an instruction of the function fits.
func (b body) fits(i api.Inst) bool { return b.rule(i.Op)(i) }

// rule is what an operation asks of its instructions.
func (b body) rule(op uint16) func(i api.Inst) bool {
	switch op {
	case opFunction:
		return b.function
	case opFunctionCall:
		return b.functionCall
	case opVariable:
		return b.variable
	case opLoad:
		return b.load
	case opStore:
		return b.store
	case opAccessChain:
		return b.accessChain
	case opVectorExtractDynamic:
		return b.vectorExtract
	case opVectorInsertDynamic:
		return b.vectorInsert
	case opVectorShuffle:
		return b.vectorShuffle
	case opCompositeConstruct:
		return b.compositeConstruct
	case opCompositeExtract:
		return b.compositeExtract
	case opCompositeInsert:
		return b.compositeInsert
	case opPhi:
		return b.phi
	case opBranchConditional:
		return b.branchConditional
	case opSwitch:
		return b.switchOver
	case opReturn:
		return b.returnNothing
	case opReturnValue:
		return b.returnValue
	}
	return b.valueRule(op)
}

// valueRule is what an operation asks that makes a value of whole values.
func (b body) valueRule(op uint16) func(i api.Inst) bool {
	switch op {
	case opCopyObject:
		return b.copyObject
	case opBitcast, opSNegate, opNot, opBitReverse, opBitCount,
		opIAdd, opISub, opIMul, opUDiv, opSDiv, opUMod, opSRem, opSMod,
		opShiftRightLogical, opShiftRightArithmetic, opShiftLeftLogical,
		opBitwiseOr, opBitwiseXor, opBitwiseAnd:
		return b.ofNumbers
	case opIAddCarry, opISubBorrow, opUMulExtended, opSMulExtended:
		return b.pairOfNumbers
	case opAny, opAll:
		return b.gathered
	case opLogicalEqual, opLogicalNotEqual, opLogicalOr, opLogicalAnd, opLogicalNot:
		return b.ofTruths
	case opSelect:
		return b.selected
	case opIEqual, opINotEqual, opUGreaterThan, opSGreaterThan, opUGreaterThanEqual, opSGreaterThanEqual,
		opULessThan, opSLessThan, opULessThanEqual, opSLessThanEqual:
		return b.compared
	case opBitFieldInsert, opBitFieldSExtract, opBitFieldUExtract:
		return b.bitField
	}
	return b.notAsked
}

// notAsked is the rule of operations that ask nothing.
func (b body) notAsked(api.Inst) bool { return true }
