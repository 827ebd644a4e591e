package arith

// ofTwo is what an operation of two words does; nil: it is none.
// There are several maps, each of few operations: the one that is asked is made anew each time, and a run asks at nearly every step.
func ofTwo(op uint16) func(a, b uint32) uint32 {
	switch {
	case within(op, opIAdd, opIMul):
		return ofSums(op)
	case within(op, opUDiv, opSMod):
		return ofQuotients(op)
	case within(op, opLogicalEqual, opLogicalAnd):
		return ofTruths(op)
	case within(op, opIEqual, opSGreaterThanEqual):
		return ofGreater(op)
	case within(op, opULessThan, opSLessThanEqual):
		return ofLess(op)
	case within(op, opShiftRightLogical, opBitwiseAnd):
		return ofBits(op)
	}
	return nil
}

// ofSums tells those that add, subtract and multiply.
func ofSums(op uint16) func(a, b uint32) uint32 {
	return map[uint16]func(a, b uint32) uint32{
		opIAdd: func(a, b uint32) uint32 { return a + b },
		opISub: func(a, b uint32) uint32 { return a - b },
		opIMul: func(a, b uint32) uint32 { return a * b },
	}[op]
}

// ofQuotients tells those that divide.
func ofQuotients(op uint16) func(a, b uint32) uint32 {
	divided := map[uint16]func(a, b uint32) uint32{
		opUDiv: func(a, b uint32) uint32 { return a / b },
		opUMod: func(a, b uint32) uint32 { return a % b },
		opSDiv: func(a, b uint32) uint32 { return uint32(int32(a) / int32(b)) },
		opSRem: func(a, b uint32) uint32 { return uint32(int32(a) % int32(b)) },
		opSMod: func(a, b uint32) uint32 { return uint32(floored(int32(a), int32(b))) },
	}[op]
	if divided == nil {
		return nil
	}
	return func(a, b uint32) uint32 {
		if b == 0 {
			return 0
		}
		return divided(a, b)
	}
}

// floored is what is left over of a, with the sign of b.
func floored(a, b int32) int32 {
	left := a % b
	if left != 0 && (left < 0) != (b < 0) {
		left += b
	}
	return left
}

// ofTruths tells those that ask two truths.
func ofTruths(op uint16) func(a, b uint32) uint32 {
	return map[uint16]func(a, b uint32) uint32{
		opLogicalEqual:    func(a, b uint32) uint32 { return word((a != 0) == (b != 0)) },
		opLogicalNotEqual: func(a, b uint32) uint32 { return word((a != 0) != (b != 0)) },
		opLogicalOr:       func(a, b uint32) uint32 { return word(a != 0 || b != 0) },
		opLogicalAnd:      func(a, b uint32) uint32 { return word(a != 0 && b != 0) },
	}[op]
}

// ofGreater tells those that ask whether words are the same, and whether one is above another.
func ofGreater(op uint16) func(a, b uint32) uint32 {
	return map[uint16]func(a, b uint32) uint32{
		opIEqual:            func(a, b uint32) uint32 { return word(a == b) },
		opINotEqual:         func(a, b uint32) uint32 { return word(a != b) },
		opUGreaterThan:      func(a, b uint32) uint32 { return word(a > b) },
		opUGreaterThanEqual: func(a, b uint32) uint32 { return word(a >= b) },
		opSGreaterThan:      func(a, b uint32) uint32 { return word(int32(a) > int32(b)) },
		opSGreaterThanEqual: func(a, b uint32) uint32 { return word(int32(a) >= int32(b)) },
	}[op]
}

// ofLess tells those that ask whether a word is below another.
func ofLess(op uint16) func(a, b uint32) uint32 {
	return map[uint16]func(a, b uint32) uint32{
		opULessThan:      func(a, b uint32) uint32 { return word(a < b) },
		opULessThanEqual: func(a, b uint32) uint32 { return word(a <= b) },
		opSLessThan:      func(a, b uint32) uint32 { return word(int32(a) < int32(b)) },
		opSLessThanEqual: func(a, b uint32) uint32 { return word(int32(a) <= int32(b)) },
	}[op]
}

// ofBits tells those that move bits, and those that hold them against each other.
func ofBits(op uint16) func(a, b uint32) uint32 {
	return map[uint16]func(a, b uint32) uint32{
		opShiftRightLogical:    func(a, b uint32) uint32 { return a >> (b % wordBits) },
		opShiftRightArithmetic: func(a, b uint32) uint32 { return uint32(int32(a) >> (b % wordBits)) },
		opShiftLeftLogical:     func(a, b uint32) uint32 { return a << (b % wordBits) },
		opBitwiseOr:            func(a, b uint32) uint32 { return a | b },
		opBitwiseXor:           func(a, b uint32) uint32 { return a ^ b },
		opBitwiseAnd:           func(a, b uint32) uint32 { return a & b },
	}[op]
}
