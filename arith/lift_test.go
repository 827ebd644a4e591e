package arith

import (
	"testing"
)

// P13.3: the chapter's examples.
func TestLiftExamples(t *testing.T) {
	holdLift(t, called(t, "OpIAdd"), row(4, 6), row(1, 2), row(3, 4))
	holdLift(t, called(t, "OpIAddCarry"), row(2, 0, 0, 1), row(1, top), row(1, 1))
	holdLift(t, called(t, "OpAny"), row(0), row(0, 0))
	holdLift(t, called(t, "OpAll"), row(1), nil)
	holdNoLift(t, 128, row(1), row(1, 2))
}

// P13.3: one row, two, three and four, place by place.
func TestLiftPlaces(t *testing.T) {
	holdLift(t, called(t, "OpSNegate"), row(0, top, 1), row(0, 1, top))
	holdLift(t, called(t, "OpCopyObject"), row(3, 1, 2), row(3, 1, 2))
	holdLift(t, called(t, "OpISub"), row(9, 18, 27), row(10, 20, 30), row(1, 2, 3))
	holdLift(t, called(t, "OpSDiv"), row(minus(3), 0, 1<<31), row(minus(7), 7, 1<<31), row(2, 0, top))
	holdLift(t, called(t, "OpSLessThan"), row(1, 0, 0), row(top, 1, 5), row(1, top, 5))
	holdLift(t, called(t, "OpSelect"), row(1, 20, 3), row(7, 0, 1), row(1, 2, 3), row(10, 20, 30))
	holdLift(t, called(t, "OpBitFieldUExtract"), row(3, 15, 0), row(255, 255, 255), row(4, 4, 8), row(2, 99, 8))
	holdLift(t, called(t, "OpBitFieldSExtract"), row(top, 0), row(16, 16), row(4, 5), row(1, 1))
	holdLift(t, called(t, "OpBitFieldInsert"), row(3<<30, 0xf0), row(0, 0), row(255, 255), row(30, 4), row(9, 4))
}

// P13.3: of two answers the first ones stand ahead of all second ones.
func TestLiftPairs(t *testing.T) {
	holdLift(t, called(t, "OpISubBorrow"), row(top, 4, 0, 1, 0, 0), row(0, 9, 7), row(1, 5, 7))
	holdLift(t, called(t, "OpUMulExtended"), row(top-1, 6, 1, 0), row(top, 2), row(2, 3))
	holdLift(t, called(t, "OpSMulExtended"), row(top-1, 6, top, 0), row(top, 2), row(2, 3))
	holdLift(t, called(t, "OpIAddCarry"), row(0, 1), row(top), row(1))
}

// P13.3: of any and all there is one word, however long the row.
func TestLiftWholeRows(t *testing.T) {
	for _, c := range []struct {
		row      []uint32
		any, all uint32
	}{
		{nil, 0, 1}, {row(), 0, 1}, {row(0), 0, 0}, {row(1), 1, 1}, {row(7), 1, 1}, {row(1 << 31), 1, 1}, {row(top), 1, 1},
		{row(0, 0, 0, 0), 0, 0}, {row(0, 0, 0, 8), 1, 0}, {row(8, 0, 0, 0), 1, 0}, {row(1, 2, 4, 8), 1, 1}, {row(1, 2, 4, 0), 1, 0}, {row(0, 2, 4, 8), 1, 0}, {row(1, top), 1, 1},
	} {
		holdLift(t, called(t, "OpAny"), row(c.any), c.row)
		holdLift(t, called(t, "OpAll"), row(c.all), c.row)
	}
}

// P13.3: rows without words give none, and rows of one word what the word gives.
func TestLiftSmall(t *testing.T) {
	for _, c := range chapter() {
		if c.kind == kindRow {
			continue
		}
		holdLift(t, c, nil, make([][]uint32, c.arity)...)
		empty := rows()
		for range c.arity {
			empty = append(empty, row())
		}
		holdLift(t, c, nil, empty...)
		empty[0] = nil
		holdLift(t, c, nil, empty...)
		for _, a := range edges() {
			single, words := rows(), row()
			for k := range c.arity {
				words = append(words, a-uint32(k))
				single = append(single, row(a-uint32(k)))
			}
			holdLift(t, c, saidWords(c, words), single...)
		}
	}
}

// P13.3: every operation, of rows of any length made by chance, held against the chapter's words.
func TestLiftByChance(t *testing.T) {
	d := dice(133)
	for range 400 {
		for _, c := range chapter() {
			l := d.rows(c.arity, d.below(9))
			holdLift(t, c, saidLift(c, l), l...)
		}
	}
	for _, c := range chapter() {
		l := d.rows(c.arity, 4096)
		holdLift(t, c, saidLift(c, l), l...)
	}
}

// P13.3: what is none of the chapter's operations is refused, however many rows there are, and whatever their lengths.
func TestLiftOthers(t *testing.T) {
	known := kinds()
	d := dice(134)
	for op := range 1 << 16 {
		for n := range 6 {
			if known[uint16(op)].arity != n || n == 0 {
				holdNoLift(t, uint16(op), d.rows(n, d.below(3))...)
			}
		}
	}
}

// P13.3: no rows, one row less, one more, and very many are refused.
func TestLiftCounts(t *testing.T) {
	for _, c := range chapter() {
		holdNoLift(t, c.op)
		for n := range 8 {
			if n == c.arity {
				continue
			}
			for size := range 4 {
				holdNoLift(t, c.op, make([][]uint32, n)...)
				d := dice(size)
				holdNoLift(t, c.op, d.rows(n, size)...)
			}
		}
		holdNoLift(t, c.op, make([][]uint32, 1<<16)...)
	}
}

// P13.3: rows of unlike lengths are refused, whichever of them is the shorter one.
func TestLiftLengths(t *testing.T) {
	d := dice(135)
	for _, c := range chapter() {
		if c.arity == 1 {
			continue
		}
		for at := range c.arity {
			for size := range 5 {
				for other := range 6 {
					if other == size {
						continue
					}
					l := d.rows(c.arity, size)
					l[at] = d.words(other)
					holdNoLift(t, c.op, l...)
				}
			}
			l := make([][]uint32, c.arity)
			l[at] = row(1)
			holdNoLift(t, c.op, l...)
		}
	}
	holdNoLift(t, 169, row(1, 2), row(1), row(1, 2))
	holdNoLift(t, 201, row(1, 2), row(1, 2), row(1, 2), row(1))
	holdNoLift(t, 201, row(1), row(1, 2), row(1, 2), row(1))
}
