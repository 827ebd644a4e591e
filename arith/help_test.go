package arith

import (
	"slices"
	"testing"

	"intaglio/api"
)

// The kinds of operations, as the chapter's tables part them.
const (
	kindNone = iota
	kindOne
	kindTwo
	kindPair
	kindMore
	kindRow
)

// told is an operation as the chapter tells it.
type told struct {
	op    uint16
	name  string
	kind  int
	arity int
}

// chapter is all operations of the chapter.
func chapter() []told {
	return []told{
		{126, "OpSNegate", kindOne, 1}, {200, "OpNot", kindOne, 1}, {204, "OpBitReverse", kindOne, 1}, {205, "OpBitCount", kindOne, 1},
		{168, "OpLogicalNot", kindOne, 1}, {83, "OpCopyObject", kindOne, 1}, {124, "OpBitcast", kindOne, 1},
		{128, "OpIAdd", kindTwo, 2}, {130, "OpISub", kindTwo, 2}, {132, "OpIMul", kindTwo, 2},
		{134, "OpUDiv", kindTwo, 2}, {137, "OpUMod", kindTwo, 2}, {135, "OpSDiv", kindTwo, 2}, {138, "OpSRem", kindTwo, 2}, {139, "OpSMod", kindTwo, 2},
		{196, "OpShiftLeftLogical", kindTwo, 2}, {194, "OpShiftRightLogical", kindTwo, 2}, {195, "OpShiftRightArithmetic", kindTwo, 2},
		{197, "OpBitwiseOr", kindTwo, 2}, {198, "OpBitwiseXor", kindTwo, 2}, {199, "OpBitwiseAnd", kindTwo, 2},
		{164, "OpLogicalEqual", kindTwo, 2}, {165, "OpLogicalNotEqual", kindTwo, 2}, {166, "OpLogicalOr", kindTwo, 2}, {167, "OpLogicalAnd", kindTwo, 2},
		{170, "OpIEqual", kindTwo, 2}, {171, "OpINotEqual", kindTwo, 2},
		{172, "OpUGreaterThan", kindTwo, 2}, {174, "OpUGreaterThanEqual", kindTwo, 2}, {176, "OpULessThan", kindTwo, 2}, {178, "OpULessThanEqual", kindTwo, 2},
		{173, "OpSGreaterThan", kindTwo, 2}, {175, "OpSGreaterThanEqual", kindTwo, 2}, {177, "OpSLessThan", kindTwo, 2}, {179, "OpSLessThanEqual", kindTwo, 2},
		{149, "OpIAddCarry", kindPair, 2}, {150, "OpISubBorrow", kindPair, 2}, {151, "OpUMulExtended", kindPair, 2}, {152, "OpSMulExtended", kindPair, 2},
		{169, "OpSelect", kindMore, 3}, {203, "OpBitFieldUExtract", kindMore, 3}, {202, "OpBitFieldSExtract", kindMore, 3}, {201, "OpBitFieldInsert", kindMore, 4},
		{154, "OpAny", kindRow, 1}, {155, "OpAll", kindRow, 1},
	}
}

// ofKind is the chapter's operations of a kind.
func ofKind(kind int) []told {
	return slices.DeleteFunc(chapter(), func(c told) bool { return c.kind != kind })
}

// kinds is the chapter's operations by their numbers; the zero one says that there is none.
func kinds() map[uint16]told {
	m := map[uint16]told{}
	for _, c := range chapter() {
		m[c.op] = c
	}
	return m
}

// top is the highest word.
const top = 1<<32 - 1

// row is words.
func row(l ...uint32) []uint32 { return l }

// rows is rows of words.
func rows(l ...[]uint32) [][]uint32 { return l }

// minus is the word of a number below 0.
func minus(n uint32) uint32 { return -n }

// edges is the words at which something may change, and some between them.
func edges() []uint32 {
	return row(0, 1, 2, 3, 7, 8, 15, 16, 31, 32, 33, 63, 64, 255, 256, 1<<16-1, 1<<16, 1<<16+1, 0x12345678, 0x55555555, 1<<30, 1<<31-2, 1<<31-1, 1<<31, 1<<31+1, 0xaaaaaaaa, 0xdeadbeef, 3<<30, minus(33), minus(32), minus(31), minus(8), minus(7), minus(3), minus(2), top)
}

// dice are numbers that look like chance, and are the same at every run.
type dice uint64

// below is a number below n.
func (d *dice) below(n int) int {
	*d = *d*6364136223846793005 + 1442695040888963407
	return int(uint64(*d)>>33) % n
}

// word is a word of any size: often a small one, one at an edge, or one near the top.
func (d *dice) word() uint32 {
	any := uint32(d.below(1<<16))<<16 | uint32(d.below(1<<16))
	switch d.below(5) {
	case 0:
		return edges()[d.below(len(edges()))]
	case 1:
		return any >> d.below(32)
	case 2:
		return -(any >> d.below(32))
	case 3:
		return uint32(d.below(70))
	}
	return any
}

// words is so many words.
func (d *dice) words(n int) []uint32 {
	w := make([]uint32, n)
	for k := range w {
		w[k] = d.word()
	}
	return w
}

// rows is so many rows of so many words.
func (d *dice) rows(n, size int) [][]uint32 {
	l := make([][]uint32, n)
	for k := range l {
		l[k] = d.words(size)
	}
	return l
}

// holdUnary says whether Unary answers a word.
func holdUnary(t *testing.T, c told, a, want uint32) {
	t.Helper()
	if x, is := Unary(c.op, a); x != want || !is {
		t.Errorf("Unary of %s %d: %d, %v; not %d", c.name, a, x, is, want)
	}
}

// holdBinary says whether Binary answers a word.
func holdBinary(t *testing.T, c told, a, b, want uint32) {
	t.Helper()
	if x, is := Binary(c.op, a, b); x != want || !is {
		t.Errorf("Binary of %s %d %d: %d, %v; not %d", c.name, a, b, x, is, want)
	}
}

// holdPair says whether Pair answers two words.
func holdPair(t *testing.T, c told, a, b, want, second uint32) {
	t.Helper()
	if x, y, is := Pair(c.op, a, b); x != want || y != second || !is {
		t.Errorf("Pair of %s %d %d: %d, %d, %v; not %d, %d", c.name, a, b, x, y, is, want, second)
	}
}

// holdField says whether Field answers a word.
func holdField(t *testing.T, c told, want uint32, l ...uint32) {
	t.Helper()
	if x, is := Field(c.op, l...); x != want || !is {
		t.Errorf("Field of %s %d: %d, %v; not %d", c.name, l, x, is, want)
	}
}

// holdLift says whether Lift answers a row.
func holdLift(t *testing.T, c told, want []uint32, l ...[]uint32) {
	t.Helper()
	if w, e := Lift(c.op, l...); !slices.Equal(w, want) || e != api.OK {
		t.Errorf("Lift of %s %d: %d, %d; not %d", c.name, l, w, e, want)
	}
}

// holdNoLift says whether Lift answers ErrArg, and nothing else.
func holdNoLift(t *testing.T, op uint16, l ...[]uint32) {
	t.Helper()
	if w, e := Lift(op, l...); len(w) != 0 || e != api.ErrArg {
		t.Errorf("Lift of %d %d: %d, %d; not ErrArg", op, l, w, e)
	}
}

// called is the chapter's operation of a name.
func called(t testing.TB, name string) told {
	t.Helper()
	l := chapter()
	k := slices.IndexFunc(l, func(c told) bool { return c.name == name })
	if k < 0 {
		t.Fatalf("no operation is called %s", name)
	}
	return l[k]
}
