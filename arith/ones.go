package arith

// wordBits is how many bits a word has.
const wordBits = 32

// ofOne is what an operation of one word does; nil: it is none.
func ofOne(op uint16) func(a uint32) uint32 {
	same := func(a uint32) uint32 { return a }
	return map[uint16]func(a uint32) uint32{
		opSNegate:    func(a uint32) uint32 { return -a },
		opNot:        func(a uint32) uint32 { return ^a },
		opBitReverse: func(a uint32) uint32 { return reversed(a) },
		opBitCount:   func(a uint32) uint32 { return counted(a) },
		opLogicalNot: func(a uint32) uint32 { return word(a == 0) },
		opCopyObject: same,
		opBitcast:    same,
	}[op]
}

// word is a truth as a word.
func word(is bool) uint32 {
	if is {
		return 1
	}
	return 0
}

// bit is the bit of a number of a word.
func bit(a, k uint32) uint32 { return a >> k & 1 }

// reversed is a word with its bits the other way round.
func reversed(a uint32) uint32 {
	var x uint32
	for k := range uint32(wordBits) {
		x |= bit(a, wordBits-1-k) << k
	}
	return x
}

// counted is how many bits of a word are 1.
func counted(a uint32) uint32 {
	var n uint32
	for k := range uint32(wordBits) {
		n += bit(a, k)
	}
	return n
}
