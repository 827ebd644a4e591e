package arith

import (
	"fmt"
	"math/big"
	"slices"
	"strconv"
	"testing"
)

// The chapter's words said once more, by numbers of any size and by bits as texts.

// whole is a word as a number.
func whole(a uint32) *big.Int { return big.NewInt(int64(a)) }

// signed is a word as a signed number.
func signed(a uint32) *big.Int {
	n := whole(a)
	if n.Cmp(big.NewInt(1<<31)) >= 0 {
		n.Sub(n, big.NewInt(1<<32))
	}
	return n
}

// wrapped is a number modulo 2^32.
func wrapped(n *big.Int) uint32 {
	return uint32(new(big.Int).Mod(n, big.NewInt(1<<32)).Uint64())
}

// upper is how often 2^32 goes into a number, modulo 2^32.
func upper(n *big.Int) uint32 {
	low := new(big.Int).Mod(n, big.NewInt(1<<32))
	return wrapped(new(big.Int).Quo(new(big.Int).Sub(n, low), big.NewInt(1<<32)))
}

// truth is a truth as it is answered.
func truth(is bool) uint32 {
	if is {
		return 1
	}
	return 0
}

// bitsOf is the bits of a word as bytes 0 and 1, from the lowest on.
func bitsOf(a uint32) []byte {
	l := []byte(fmt.Sprintf("%032b", a))
	slices.Reverse(l)
	return l
}

// ofBytes is the word of such bits.
func ofBytes(l []byte) uint32 {
	l = slices.Clone(l)
	slices.Reverse(l)
	n, err := strconv.ParseUint(string(l), 2, 32)
	if err != nil || len(l) != 32 {
		panic("no bits of a word")
	}
	return uint32(n)
}

// zeros is so many bits 0.
func zeros(n int) []byte { return slices.Repeat([]byte{'0'}, n) }

// saidOne is what an operation makes of a word.
func saidOne(name string, a uint32) uint32 {
	l := bitsOf(a)
	switch name {
	case "OpSNegate":
		return wrapped(new(big.Int).Neg(whole(a)))
	case "OpNot":
		for k := range l {
			l[k] ^= '0' ^ '1'
		}
		return ofBytes(l)
	case "OpBitReverse":
		slices.Reverse(l)
		return ofBytes(l)
	case "OpBitCount":
		return uint32(32 - len(slices.DeleteFunc(l, func(b byte) bool { return b == '1' })))
	case "OpLogicalNot":
		return truth(a == 0)
	case "OpCopyObject", "OpBitcast":
		return a
	}
	panic(name)
}

// saidTwo is what an operation makes of two words.
func saidTwo(name string, a, b uint32) uint32 {
	none := new(big.Int)
	switch name {
	case "OpIAdd":
		return wrapped(none.Add(whole(a), whole(b)))
	case "OpISub":
		return wrapped(none.Sub(whole(a), whole(b)))
	case "OpIMul":
		return wrapped(none.Mul(whole(a), whole(b)))
	case "OpUDiv", "OpUMod", "OpSDiv", "OpSRem", "OpSMod":
		if b == 0 {
			return 0
		}
		return saidDivision(name, a, b)
	case "OpLogicalEqual":
		return truth(a != 0 && b != 0 || a == 0 && b == 0)
	case "OpLogicalNotEqual":
		return truth(a != 0 && b == 0 || a == 0 && b != 0)
	case "OpLogicalOr":
		return truth(!(a == 0 && b == 0))
	case "OpLogicalAnd":
		return truth(!(a == 0 || b == 0))
	case "OpShiftLeftLogical", "OpShiftRightLogical", "OpShiftRightArithmetic", "OpBitwiseOr", "OpBitwiseXor", "OpBitwiseAnd":
		return saidBits(name, a, b)
	}
	return saidOrder(name, a, b)
}

// saidDivision is what those that divide make of two words, of which the second one is not 0.
func saidDivision(name string, a, b uint32) uint32 {
	x, y := whole(a), whole(b)
	if name[2] == 'S' {
		x, y = signed(a), signed(b)
	}
	often := new(big.Int).Quo(x, y)
	left := new(big.Int).Sub(x, new(big.Int).Mul(y, often))
	switch name {
	case "OpUDiv", "OpSDiv":
		return wrapped(often)
	case "OpSMod":
		if left.Sign()*y.Sign() < 0 {
			left.Add(left, y)
		}
	}
	return wrapped(left)
}

// saidBits is what those that go bit by bit make of two words.
func saidBits(name string, a, b uint32) uint32 {
	l, m := bitsOf(a), bitsOf(b)
	n := int(wrapped(new(big.Int).Mod(whole(b), big.NewInt(32))))
	switch name {
	case "OpShiftLeftLogical":
		return ofBytes(append(zeros(n), l[:32-n]...))
	case "OpShiftRightLogical":
		return ofBytes(append(l[n:], zeros(n)...))
	case "OpShiftRightArithmetic":
		return ofBytes(append(l[n:], slices.Repeat(l[31:], n)...))
	}
	for k := range l {
		ones := int(l[k]-'0') + int(m[k]-'0')
		is := map[string]bool{"OpBitwiseOr": ones > 0, "OpBitwiseXor": ones == 1, "OpBitwiseAnd": ones == 2}[name]
		l[k] = '0' + byte(truth(is))
	}
	return ofBytes(l)
}

// saidOrder is what those that hold words against each other make of two.
func saidOrder(name string, a, b uint32) uint32 {
	order := whole(a).Cmp(whole(b))
	if name[2] == 'S' {
		order = signed(a).Cmp(signed(b))
	}
	switch name {
	case "OpIEqual":
		return truth(order == 0)
	case "OpINotEqual":
		return truth(order != 0)
	case "OpUGreaterThan", "OpSGreaterThan":
		return truth(order > 0)
	case "OpUGreaterThanEqual", "OpSGreaterThanEqual":
		return truth(order >= 0)
	case "OpULessThan", "OpSLessThan":
		return truth(order < 0)
	case "OpULessThanEqual", "OpSLessThanEqual":
		return truth(order <= 0)
	}
	panic(name)
}

// saidPair is what an operation with two answers makes of two words.
func saidPair(name string, a, b uint32) (uint32, uint32) {
	n := new(big.Int)
	switch name {
	case "OpIAddCarry":
		n.Add(whole(a), whole(b))
		return wrapped(n), truth(n.Cmp(big.NewInt(1<<32)) >= 0)
	case "OpISubBorrow":
		n.Sub(whole(a), whole(b))
		return wrapped(n), truth(n.Sign() < 0)
	case "OpUMulExtended":
		n.Mul(whole(a), whole(b))
		return wrapped(n), upper(n)
	case "OpSMulExtended":
		n.Mul(signed(a), signed(b))
		return wrapped(n), upper(n)
	}
	panic(name)
}

// saidMore is what an operation of three or four makes of words.
func saidMore(name string, w []uint32) uint32 {
	if name == "OpSelect" {
		if w[0] == 0 {
			return w[2]
		}
		return w[1]
	}
	o := int(w[len(w)-2] % 32)
	n := 32 - o
	if int64(w[len(w)-1]) < int64(n) {
		n = int(w[len(w)-1])
	}
	l := bitsOf(w[0])
	taken := slices.Clone(l[o : o+n])
	switch name {
	case "OpBitFieldUExtract":
		return ofBytes(append(taken, zeros(32-n)...))
	case "OpBitFieldSExtract":
		if n == 0 {
			return 0
		}
		return ofBytes(append(taken, slices.Repeat(taken[n-1:], 32-n)...))
	case "OpBitFieldInsert":
		return ofBytes(slices.Concat(l[:o], bitsOf(w[1])[:n], l[o+n:]))
	}
	panic(name)
}

// saidWords is what an operation of words makes of as many as it takes: one answer, or two.
func saidWords(c told, w []uint32) []uint32 {
	switch c.kind {
	case kindOne:
		return row(saidOne(c.name, w[0]))
	case kindTwo:
		return row(saidTwo(c.name, w[0], w[1]))
	case kindPair:
		x, y := saidPair(c.name, w[0], w[1])
		return row(x, y)
	}
	return row(saidMore(c.name, w))
}

// saidRow is what an operation of a row makes of it.
func saidRow(name string, w []uint32) uint32 {
	trues := 0
	for _, a := range w {
		if a != 0 {
			trues++
		}
	}
	return truth(name == "OpAny" && trues > 0 || name == "OpAll" && trues == len(w))
}

// saidLift is what an operation makes of as many rows as it takes, of one length.
func saidLift(c told, l [][]uint32) []uint32 {
	if c.kind == kindRow {
		return row(saidRow(c.name, l[0]))
	}
	var first, second []uint32
	for at := range l[0] {
		var w []uint32
		for _, r := range l {
			w = append(w, r[at])
		}
		answers := saidWords(c, w)
		first = append(first, answers[0])
		second = append(second, answers[1:]...)
	}
	return append(first, second...)
}

// What is said once more says what the chapter's examples say.
func TestSaid(t *testing.T) {
	for _, c := range []struct {
		name  string
		words []uint32
		want  []uint32
	}{
		{"OpSDiv", row(minus(7), 2), row(minus(3))}, {"OpSDiv", row(1<<31, top), row(1 << 31)}, {"OpSRem", row(minus(7), 2), row(top)},
		{"OpSMod", row(minus(7), 2), row(1)}, {"OpSMod", row(7, minus(2)), row(top)}, {"OpUDiv", row(7, 0), row(0)},
		{"OpShiftLeftLogical", row(1, 33), row(2)}, {"OpShiftRightArithmetic", row(minus(8), 1), row(minus(4))},
		{"OpBitReverse", row(1), row(1 << 31)}, {"OpBitCount", row(255), row(8)},
		{"OpISubBorrow", row(0, 1), row(top, 1)}, {"OpSMulExtended", row(top, 2), row(top-1, top)}, {"OpUMulExtended", row(top, 2), row(top-1, 1)},
		{"OpBitFieldUExtract", row(255, 4, 99), row(15)}, {"OpBitFieldSExtract", row(16, 4, 1), row(top)}, {"OpBitFieldInsert", row(0, 255, 30, 9), row(3 << 30)},
	} {
		if got := saidWords(called(t, c.name), c.words); !slices.Equal(got, c.want) {
			t.Errorf("%s of %d: %d; not %d", c.name, c.words, got, c.want)
		}
	}
}
