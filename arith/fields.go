package arith

// ofMore is what an operation of three or four words does; nil: it is none.
func ofMore(op uint16) func(l ...uint32) uint32 {
	return map[uint16]func(l ...uint32) uint32{
		opSelect:           func(l ...uint32) uint32 { return selected(l[0], l[1], l[2]) },
		opBitFieldInsert:   func(l ...uint32) uint32 { return inserted(l[0], l[1], l[2], l[3]) },
		opBitFieldSExtract: func(l ...uint32) uint32 { return signedField(l[0], l[1], l[2]) },
		opBitFieldUExtract: func(l ...uint32) uint32 { return field(l[0], l[1], l[2]) },
	}[op]
}

// selected is a, if c is true, else b.
func selected(c, a, b uint32) uint32 {
	if c != 0 {
		return a
	}
	return b
}

// reach is at which bit a field begins, and how many bits it has: none of them is beyond the word's end.
func reach(offset, count uint32) (from, n uint32) {
	from = offset % wordBits
	return from, min(count, wordBits-from)
}

// field is the bits of a field, moved down.
func field(a, offset, count uint32) uint32 {
	from, n := reach(offset, count)
	var x uint32
	for k := range n {
		x |= bit(a, from+k) << k
	}
	return x
}

// signedField is likewise, with the field's highest bit above.
func signedField(a, offset, count uint32) uint32 {
	from, n := reach(offset, count)
	if n == 0 {
		return 0
	}
	var x uint32
	for k := range uint32(wordBits) {
		x |= bit(a, from+min(k, n-1)) << k
	}
	return x
}

// inserted is a with the lowest bits of b in the place of a field.
func inserted(a, b, offset, count uint32) uint32 {
	from, n := reach(offset, count)
	for k := range n {
		a &^= 1 << (from + k)
		a |= bit(b, k) << (from + k)
	}
	return a
}
