package arith

// level says whether rows are all of one length.
func level(l ...[]uint32) bool {
	for _, row := range l {
		if len(row) != len(l[0]) {
			return false
		}
	}
	return true
}

// lifted is what an operation makes of as many rows as it takes, all of one length.
func lifted(op uint16, l ...[]uint32) []uint32 {
	switch {
	case within(op, opAny, opAll):
		return []uint32{ofRow(op)(l[0])}
	case within(op, opIAddCarry, opSMulExtended):
		return eachPair(ofPair(op), l[0], l[1])
	}
	return each(ofWords(op), l...)
}

// ofRow is what an operation of a row does; nil: it is none.
func ofRow(op uint16) func(row []uint32) uint32 {
	return map[uint16]func(row []uint32) uint32{
		opAny: func(row []uint32) uint32 { return word(anyIs(row, true)) },
		opAll: func(row []uint32) uint32 { return word(!anyIs(row, false)) },
	}[op]
}

// anyIs says whether a word of a row is true, or is not.
func anyIs(row []uint32, is bool) bool {
	for _, a := range row {
		if (a != 0) == is {
			return true
		}
	}
	return false
}

// ofWords is what an operation of words with one answer does, however many it takes; nil: it is none.
func ofWords(op uint16) func(l ...uint32) uint32 {
	if f := ofTwo(op); f != nil {
		return func(l ...uint32) uint32 { return f(l[0], l[1]) }
	}
	if f := ofOne(op); f != nil {
		return func(l ...uint32) uint32 { return f(l[0]) }
	}
	return ofMore(op)
}

// each is what comes of the words of rows, place by place.
func each(f func(l ...uint32) uint32, l ...[]uint32) []uint32 {
	w := make([]uint32, len(l[0]))
	words := make([]uint32, len(l))
	for at := range w {
		for k, row := range l {
			words[k] = row[at]
		}
		w[at] = f(words...)
	}
	return w
}

// eachPair is what first comes of the words of two rows, place by place, and behind it what comes second.
func eachPair(f func(a, b uint32) (uint32, uint32), a, b []uint32) []uint32 {
	w := make([]uint32, 2*len(a))
	for at := range a {
		w[at], w[len(a)+at] = f(a[at], b[at])
	}
	return w
}
