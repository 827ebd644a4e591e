package arith

// ofPair is what an operation of two words with two answers does; nil: it is none.
func ofPair(op uint16) func(a, b uint32) (uint32, uint32) {
	return map[uint16]func(a, b uint32) (uint32, uint32){
		opIAddCarry:    func(a, b uint32) (uint32, uint32) { return a + b, word(a+b < a) },
		opISubBorrow:   func(a, b uint32) (uint32, uint32) { return a - b, word(a < b) },
		opUMulExtended: func(a, b uint32) (uint32, uint32) { return parted(uint64(a) * uint64(b)) },
		opSMulExtended: func(a, b uint32) (uint32, uint32) { return parted(uint64(int64(int32(a)) * int64(int32(b)))) },
	}[op]
}

// parted is the lower and the upper half of 64 bits.
func parted(n uint64) (uint32, uint32) { return uint32(n), uint32(n >> wordBits) }
