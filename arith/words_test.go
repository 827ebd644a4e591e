package arith

import (
	"testing"

	"intaglio/grammar"
)

// P13.1: each operation of the chapter takes as many words as its table says, and its name is the grammar's.
func TestArity(t *testing.T) {
	for _, c := range chapter() {
		if n := Arity(c.op); n != c.arity {
			t.Errorf("Arity of %s: %d; not %d", c.name, n, c.arity)
		}
		if f, is := grammar.Named(c.name); !is || f.Op != c.op {
			t.Errorf("%s is not the name of %d", c.name, c.op)
		}
	}
}

// P13.1: all others take none, whether the grammar has them or not.
func TestArityOfOthers(t *testing.T) {
	known := kinds()
	for op := range 1 << 16 {
		if n := Arity(uint16(op)); n != known[uint16(op)].arity {
			t.Errorf("Arity of %d: %d", op, n)
		}
	}
}

// P13.2: the chapter's examples.
func TestExamples(t *testing.T) {
	for _, c := range []struct {
		name       string
		a, b, want uint32
	}{
		{"OpUDiv", 7, 0, 0}, {"OpSDiv", minus(7), 2, minus(3)}, {"OpSDiv", 1 << 31, top, 1 << 31}, {"OpSRem", minus(7), 2, minus(1)},
		{"OpSMod", minus(7), 2, 1}, {"OpSMod", 7, minus(2), minus(1)}, {"OpUMod", 7, 0, 0},
		{"OpShiftLeftLogical", 1, 33, 2}, {"OpShiftRightArithmetic", minus(8), 1, minus(4)}, {"OpShiftRightLogical", 1 << 31, 31, 1},
	} {
		holdBinary(t, called(t, c.name), c.a, c.b, c.want)
	}
	holdUnary(t, called(t, "OpBitReverse"), 1, 1<<31)
	holdUnary(t, called(t, "OpBitCount"), 255, 8)
	holdUnary(t, called(t, "OpLogicalNot"), 7, 0)
	if x, is := Unary(128, 1); x != 0 || is {
		t.Errorf("Unary of OpIAdd 1: %d, %v", x, is)
	}
	holdPair(t, called(t, "OpIAddCarry"), top, 1, 0, 1)
	holdPair(t, called(t, "OpISubBorrow"), 0, 1, top, 1)
	holdPair(t, called(t, "OpSMulExtended"), top, 2, top-1, top)
	holdField(t, called(t, "OpBitFieldUExtract"), 3, 255, 4, 2)
	holdField(t, called(t, "OpBitFieldUExtract"), 15, 255, 4, 99)
	holdField(t, called(t, "OpBitFieldSExtract"), top, 16, 4, 1)
	holdField(t, called(t, "OpBitFieldInsert"), 3<<30, 0, 255, 30, 9)
}

// P13.2: words at the edges, of one word.
func TestUnaryEdges(t *testing.T) {
	for _, c := range []struct {
		a                                        uint32
		negated, not, reversed, counted, untruth uint32
	}{
		{0, 0, top, 0, 0, 1},
		{1, top, top - 1, 1 << 31, 1, 0},
		{2, top - 1, top - 2, 1 << 30, 1, 0},
		{1<<31 - 1, 1<<31 + 1, 1 << 31, top - 1, 31, 0},
		{1 << 31, 1 << 31, 1<<31 - 1, 1, 1, 0},
		{top, 1, 0, top, 32, 0},
		{0x12345678, 0xedcba988, 0xedcba987, 0x1e6a2c48, 13, 0},
	} {
		holdUnary(t, called(t, "OpSNegate"), c.a, c.negated)
		holdUnary(t, called(t, "OpNot"), c.a, c.not)
		holdUnary(t, called(t, "OpBitReverse"), c.a, c.reversed)
		holdUnary(t, called(t, "OpBitCount"), c.a, c.counted)
		holdUnary(t, called(t, "OpLogicalNot"), c.a, c.untruth)
		holdUnary(t, called(t, "OpCopyObject"), c.a, c.a)
		holdUnary(t, called(t, "OpBitcast"), c.a, c.a)
	}
}

// P13.2: each bit by itself.
func TestUnaryBits(t *testing.T) {
	for k := range 32 {
		holdUnary(t, called(t, "OpBitReverse"), 1<<k, 1<<(31-k))
		holdUnary(t, called(t, "OpBitCount"), 1<<k, 1)
		holdUnary(t, called(t, "OpBitCount"), 1<<k-1, uint32(k))
		holdUnary(t, called(t, "OpLogicalNot"), 1<<k, 0)
	}
}

// P13.2: divisions by 0, of -2^31 by -1, and with each of the signs.
func TestDivisions(t *testing.T) {
	for _, a := range edges() {
		for _, name := range []string{"OpUDiv", "OpUMod", "OpSDiv", "OpSRem", "OpSMod"} {
			holdBinary(t, called(t, name), a, 0, 0)
		}
	}
	for _, c := range []struct{ a, b, often, left, mod uint32 }{
		{1 << 31, top, 1 << 31, 0, 0}, {1 << 31, 1, 1 << 31, 0, 0}, {1 << 31, 2, minus(1 << 30), 0, 0}, {1 << 31, 1 << 31, 1, 0, 0},
		{1 << 31, 1<<31 - 1, top, top, 1<<31 - 2}, {1<<31 - 1, 1 << 31, 0, 1<<31 - 1, top}, {1<<31 - 1, top, 1<<31 + 1, 0, 0}, {top, 1 << 31, 0, top, top},
		{7, 2, 3, 1, 1}, {minus(7), 2, minus(3), top, 1}, {7, minus(2), minus(3), 1, top}, {minus(7), minus(2), 3, top, top},
		{6, 2, 3, 0, 0}, {minus(6), 2, minus(3), 0, 0}, {6, minus(2), minus(3), 0, 0}, {minus(6), minus(2), 3, 0, 0},
		{1, 5, 0, 1, 1}, {minus(1), 5, 0, top, 4}, {1, minus(5), 0, 1, minus(4)}, {minus(1), minus(5), 0, top, top},
		{0, 5, 0, 0, 0}, {0, minus(5), 0, 0, 0}, {0, 1 << 31, 0, 0, 0}, {0, top, 0, 0, 0},
	} {
		holdBinary(t, called(t, "OpSDiv"), c.a, c.b, c.often)
		holdBinary(t, called(t, "OpSRem"), c.a, c.b, c.left)
		holdBinary(t, called(t, "OpSMod"), c.a, c.b, c.mod)
	}
	for _, c := range []struct{ a, b, often, left uint32 }{
		{7, 2, 3, 1}, {top, 2, 1<<31 - 1, 1}, {top, top, 1, 0}, {top - 1, top, 0, top - 1}, {top, 1, top, 0}, {1 << 31, top, 0, 1 << 31}, {1 << 31, 1<<31 - 1, 1, 1}, {top, 1 << 31, 1, 1<<31 - 1}, {0, 7, 0, 0}, {1, 2, 0, 1},
	} {
		holdBinary(t, called(t, "OpUDiv"), c.a, c.b, c.often)
		holdBinary(t, called(t, "OpUMod"), c.a, c.b, c.left)
	}
}

// P13.2: sums that go beyond a word's end.
func TestSums(t *testing.T) {
	for _, c := range []struct{ a, b, sum, less, product uint32 }{
		{0, 0, 0, 0, 0}, {1, 1, 2, 0, 1}, {top, 1, 0, top - 1, top}, {1, top, 0, 2, top}, {top, top, top - 1, 0, 1},
		{1 << 31, 1 << 31, 0, 0, 0}, {1<<31 - 1, 1, 1 << 31, 1<<31 - 2, 1<<31 - 1}, {0, 1, 1, top, 0}, {1 << 16, 1 << 16, 1 << 17, 0, 0}, {1<<16 + 1, 1<<16 - 1, 1 << 17, 2, top}, {minus(3), 5, 2, minus(8), minus(15)},
	} {
		holdBinary(t, called(t, "OpIAdd"), c.a, c.b, c.sum)
		holdBinary(t, called(t, "OpISub"), c.a, c.b, c.less)
		holdBinary(t, called(t, "OpIMul"), c.a, c.b, c.product)
	}
}

// P13.2: shifts by 0, by all of a word's bits, and beyond.
func TestShifts(t *testing.T) {
	for _, c := range []struct{ a, b, up, down, drawn uint32 }{
		{1 << 31, 0, 1 << 31, 1 << 31, 1 << 31}, {top, 0, top, top, top}, {5, 0, 5, 5, 5},
		{1 << 31, 31, 0, 1, top}, {top, 31, 1 << 31, 1, top}, {1<<31 - 1, 31, 1 << 31, 0, 0}, {1, 31, 1 << 31, 0, 0},
		{1 << 31, 32, 1 << 31, 1 << 31, 1 << 31}, {top, 32, top, top, top}, {5, 32, 5, 5, 5},
		{1 << 31, 33, 0, 1 << 30, 3 << 30}, {top, 33, top - 1, 1<<31 - 1, top}, {5, 33, 10, 2, 2}, {1<<31 - 1, 33, top - 1, 1<<30 - 1, 1<<30 - 1},
		{1 << 31, top, 0, 1, top}, {1, top, 1 << 31, 0, 0}, {top, top, 1 << 31, 1, top}, {1 << 30, 1 << 31, 1 << 30, 1 << 30, 1 << 30}, {0, 7, 0, 0, 0},
	} {
		holdBinary(t, called(t, "OpShiftLeftLogical"), c.a, c.b, c.up)
		holdBinary(t, called(t, "OpShiftRightLogical"), c.a, c.b, c.down)
		holdBinary(t, called(t, "OpShiftRightArithmetic"), c.a, c.b, c.drawn)
	}
}

// P13.2: bits by bits, and truths that are not just 0 and 1.
func TestBitsAndTruths(t *testing.T) {
	holdBinary(t, called(t, "OpBitwiseOr"), 12, 10, 14)
	holdBinary(t, called(t, "OpBitwiseXor"), 12, 10, 6)
	holdBinary(t, called(t, "OpBitwiseAnd"), 12, 10, 8)
	for _, a := range row(1, 2, 7, 1<<31, top) {
		for _, b := range row(1, 4, 8, 1<<30, 1<<31, top) {
			for name, want := range map[string][4]uint32{"OpLogicalEqual": {1, 0, 0, 1}, "OpLogicalNotEqual": {0, 1, 1, 0}, "OpLogicalOr": {1, 1, 1, 0}, "OpLogicalAnd": {1, 0, 0, 0}} {
				holdBinary(t, called(t, name), a, b, want[0])
				holdBinary(t, called(t, name), a, 0, want[1])
				holdBinary(t, called(t, name), 0, b, want[2])
				holdBinary(t, called(t, name), 0, 0, want[3])
			}
		}
	}
}

// P13.2: words held against each other, as numbers and as signed ones.
func TestOrder(t *testing.T) {
	rising, signedRising := row(0, 1, 1<<31-1, 1<<31, top), row(1<<31, top, 0, 1, 1<<31-1)
	for _, c := range []struct {
		letter string
		words  []uint32
	}{{"U", rising}, {"S", signedRising}} {
		for i, a := range c.words {
			for k, b := range c.words {
				holdBinary(t, called(t, "Op"+c.letter+"GreaterThan"), a, b, truth(i > k))
				holdBinary(t, called(t, "Op"+c.letter+"GreaterThanEqual"), a, b, truth(i >= k))
				holdBinary(t, called(t, "Op"+c.letter+"LessThan"), a, b, truth(i < k))
				holdBinary(t, called(t, "Op"+c.letter+"LessThanEqual"), a, b, truth(i <= k))
				holdBinary(t, called(t, "OpIEqual"), a, b, truth(i == k))
				holdBinary(t, called(t, "OpINotEqual"), a, b, truth(i != k))
			}
		}
	}
}

// P13.2: two answers, at the edges.
func TestPairEdges(t *testing.T) {
	for _, c := range []struct{ a, b, sum, carry, less, borrow uint32 }{
		{0, 0, 0, 0, 0, 0}, {top, 0, top, 0, top, 0}, {0, top, top, 0, 1, 1}, {top, 1, 0, 1, top - 1, 0}, {1, top, 0, 1, 2, 1}, {top, top, top - 1, 1, 0, 0},
		{1 << 31, 1 << 31, 0, 1, 0, 0}, {1<<31 - 1, 1 << 31, top, 0, top, 1}, {1 << 31, 1<<31 - 1, top, 0, 1, 0}, {0, 1, 1, 0, top, 1}, {5, 7, 12, 0, minus(2), 1},
	} {
		holdPair(t, called(t, "OpIAddCarry"), c.a, c.b, c.sum, c.carry)
		holdPair(t, called(t, "OpISubBorrow"), c.a, c.b, c.less, c.borrow)
	}
	for _, c := range []struct{ a, b, low, high, signedHigh uint32 }{
		{0, top, 0, 0, 0}, {1, top, top, 0, top}, {top, 1, top, 0, top}, {top, top, 1, top - 1, 0}, {top, 2, top - 1, 1, top}, {3, 5, 15, 0, 0},
		{1 << 31, 1 << 31, 0, 1 << 30, 1 << 30}, {1 << 31, top, 1 << 31, 1<<31 - 1, 0}, {1<<31 - 1, 1<<31 - 1, 1, 1<<30 - 1, 1<<30 - 1}, {1 << 31, 1<<31 - 1, 1 << 31, 1<<30 - 1, minus(1 << 30)}, {1 << 16, 1 << 16, 0, 1, 1}, {minus(2), 3, minus(6), 2, top},
	} {
		holdPair(t, called(t, "OpUMulExtended"), c.a, c.b, c.low, c.high)
		holdPair(t, called(t, "OpSMulExtended"), c.a, c.b, c.low, c.signedHigh)
	}
}

// P13.2: fields that begin at, and beyond, a word's ends, and that have no bits, one, all of them, and more than there are.
func TestFieldEdges(t *testing.T) {
	for _, c := range []struct{ a, offset, count, plain, drawn uint32 }{
		{top, 0, 0, 0, 0}, {top, 31, 0, 0, 0}, {top, 32, 0, 0, 0}, {top, 7, 0, 0, 0},
		{0xdeadbeef, 0, 32, 0xdeadbeef, 0xdeadbeef}, {0xdeadbeef, 0, 33, 0xdeadbeef, 0xdeadbeef}, {0xdeadbeef, 0, top, 0xdeadbeef, 0xdeadbeef}, {0xdeadbeef, 32, 32, 0xdeadbeef, 0xdeadbeef},
		{0xdeadbeef, 0, 1, 1, top}, {0xdeadbeef, 4, 1, 0, 0}, {0xdeadbeef, 31, 1, 1, top}, {0xdeadbeef, 31, 2, 1, top}, {0xdeadbeef, 31, 32, 1, top}, {0xdeadbeef, 63, top, 1, top},
		{0xdeadbeef, 16, 16, 0xdead, 0xffffdead}, {0xdeadbeef, 16, 17, 0xdead, 0xffffdead}, {0xdeadbeef, 16, 15, 0x5ead, 0xffffdead}, {0xdeadbeef, 33, 4, 7, 7}, {0xdeadbeef, top, 1, 1, top},
		{0x7fffffff, 31, 1, 0, 0}, {0x7fffffff, 30, 2, 1, 1}, {0x7fffffff, 1, 31, 0x3fffffff, 0x3fffffff}, {0x7fffffff, 0, 31, 0x7fffffff, top}, {0xf0, 4, 4, 15, top}, {0xf0, 4, 5, 15, 15}, {0xf0, 36, 3, 7, top}, {0xf0, 1 << 31, 8, 0xf0, minus(16)},
	} {
		holdField(t, called(t, "OpBitFieldUExtract"), c.plain, c.a, c.offset, c.count)
		holdField(t, called(t, "OpBitFieldSExtract"), c.drawn, c.a, c.offset, c.count)
	}
	for _, c := range []struct{ a, b, offset, count, want uint32 }{
		{5, top, 0, 0, 5}, {5, top, 31, 0, 5}, {0, top, 0, 32, top}, {top, 0, 0, 32, 0}, {5, 7, 0, 33, 7}, {5, 7, 0, top, 7}, {5, 7, 32, 32, 7},
		{0, top, 0, 1, 1}, {top, 0, 31, 1, 1<<31 - 1}, {0, 1, 31, 1, 1 << 31}, {0, 3, 31, 2, 1 << 31}, {0, 2, 31, 99, 0}, {top, 2, 31, top, 1<<31 - 1}, {0, 1, 63, 1, 1 << 31}, {0, 1, top, top, 1 << 31},
		{0x11111111, 0xab, 8, 8, 0x1111ab11}, {0x11111111, 0xffffffab, 8, 4, 0x11111b11}, {0x11111111, 0xabcd, 24, 8, 0xcd111111}, {0x11111111, 0xabcd, 24, 9, 0xcd111111}, {0x11111111, 0xabcd, 56, 7, 0x4d111111},
	} {
		holdField(t, called(t, "OpBitFieldInsert"), c.want, c.a, c.b, c.offset, c.count)
	}
	for _, c := range row(1, 2, 1<<31, top) {
		holdField(t, called(t, "OpSelect"), 5, c, 5, 6)
	}
	holdField(t, called(t, "OpSelect"), 6, 0, 5, 6)
}

// holdSaidWords says whether an operation makes of words what the chapter says.
func holdSaidWords(t *testing.T, c told, w ...uint32) {
	t.Helper()
	want := saidWords(c, w)
	switch c.kind {
	case kindOne:
		holdUnary(t, c, w[0], want[0])
	case kindTwo:
		holdBinary(t, c, w[0], w[1], want[0])
	case kindPair:
		holdPair(t, c, w[0], w[1], want[0], want[1])
	case kindMore:
		holdField(t, c, want[0], w...)
	}
}

// P13.2: every operation, of all edges with one another, held against the chapter's words.
func TestSaidEdges(t *testing.T) {
	for _, a := range edges() {
		for _, c := range ofKind(kindOne) {
			holdSaidWords(t, c, a)
		}
		for _, b := range edges() {
			for _, c := range append(ofKind(kindTwo), ofKind(kindPair)...) {
				holdSaidWords(t, c, a, b)
			}
		}
	}
	for _, a := range row(0, 1, 0xdeadbeef, 1<<31, top) {
		for offset := range uint32(66) {
			for _, count := range row(0, 1, 2, 15, 16, 30, 31, 32, 33, 34, 64, 1<<31, top) {
				holdSaidWords(t, called(t, "OpBitFieldUExtract"), a, offset, count)
				holdSaidWords(t, called(t, "OpBitFieldSExtract"), a, offset, count)
				holdSaidWords(t, called(t, "OpBitFieldInsert"), a, 0x12345679, offset, count)
				holdSaidWords(t, called(t, "OpSelect"), offset, a, count)
			}
		}
	}
}

// P13.2: every operation, of words made by chance.
func TestSaidByChance(t *testing.T) {
	d := dice(131)
	for range 3000 {
		for _, c := range chapter() {
			if c.kind != kindRow {
				holdSaidWords(t, c, d.words(c.arity)...)
			}
		}
	}
}

// holdNone says whether each call that is not of an operation's kind answers nothing of it.
func holdNone(t *testing.T, op uint16, kind int, a, b uint32) {
	t.Helper()
	if x, is := Unary(op, a); is != (kind == kindOne) || !is && x != 0 {
		t.Errorf("Unary of %d %d: %d, %v", op, a, x, is)
	}
	if x, is := Binary(op, a, b); is != (kind == kindTwo) || !is && x != 0 {
		t.Errorf("Binary of %d %d %d: %d, %v", op, a, b, x, is)
	}
	if x, y, is := Pair(op, a, b); is != (kind == kindPair) || !is && (x != 0 || y != 0) {
		t.Errorf("Pair of %d %d %d: %d, %d, %v", op, a, b, x, y, is)
	}
}

// P13.2: nothing of every other operation, and of those of another kind, whatever the words.
func TestOthers(t *testing.T) {
	known := kinds()
	d := dice(132)
	for op := range 1 << 16 {
		c := known[uint16(op)]
		holdNone(t, uint16(op), c.kind, d.word(), d.word())
		for n := range 7 {
			x, is := Field(uint16(op), d.words(n)...)
			if is != (c.kind == kindMore && n == c.arity) || !is && x != 0 {
				t.Errorf("Field of %d of %d words: %d, %v", op, n, x, is)
			}
		}
	}
	for _, c := range chapter() {
		for _, a := range edges() {
			holdNone(t, c.op, c.kind, a, 0)
			holdNone(t, c.op, c.kind, 7, a)
		}
	}
}

// P13.2: of three and four just as many words: none, one less, one more and very many are refused.
func TestFieldCounts(t *testing.T) {
	for _, c := range ofKind(kindMore) {
		for _, w := range [][]uint32{nil, {}, {1}, {1, 2}, {1, 2, 3}, {1, 2, 3, 4}, {1, 2, 3, 4, 5}, make([]uint32, 1<<20)} {
			x, is := Field(c.op, w...)
			if is != (len(w) == c.arity) || !is && x != 0 {
				t.Errorf("Field of %s of %d words: %d, %v", c.name, len(w), x, is)
			}
		}
		if x, is := Field(c.op); x != 0 || is {
			t.Errorf("Field of %s of no words: %d, %v", c.name, x, is)
		}
	}
}
