package arith

import "testing"

// binaryOf is what Binary answers of an operation that must be one.
func binaryOf(t *testing.T, name string, a, b uint32) uint32 {
	t.Helper()
	x, is := Binary(called(t, name).op, a, b)
	if !is {
		t.Fatalf("Binary of %s: none", name)
	}
	return x
}

// unaryOf is likewise what Unary answers.
func unaryOf(t *testing.T, name string, a uint32) uint32 {
	t.Helper()
	x, is := Unary(called(t, name).op, a)
	if !is {
		t.Fatalf("Unary of %s: none", name)
	}
	return x
}

// fieldOf is likewise what Field answers.
func fieldOf(t *testing.T, name string, l ...uint32) uint32 {
	t.Helper()
	x, is := Field(called(t, name).op, l...)
	if !is {
		t.Fatalf("Field of %s: none", name)
	}
	return x
}

// holdSums says whether sums and products are the same either way round, and grouped either way, and whether a difference leads back.
func holdSums(t *testing.T, a, b, c uint32) {
	t.Helper()
	for _, name := range []string{"OpIAdd", "OpIMul"} {
		of := func(x, y uint32) uint32 { return binaryOf(t, name, x, y) }
		if of(a, b) != of(b, a) {
			t.Errorf("%s of %d %d is not the same the other way round", name, a, b)
		}
		if of(of(a, b), c) != of(a, of(b, c)) {
			t.Errorf("%s of %d %d %d is not the same grouped otherwise", name, a, b, c)
		}
	}
	if binaryOf(t, "OpISub", binaryOf(t, "OpIAdd", a, b), b) != a {
		t.Errorf("OpISub of OpIAdd of %d %d is not back", a, b)
	}
}

// size is how far a signed word is from 0.
func size(a uint32) uint64 {
	n := int64(int32(a))
	return uint64(max(n, -n))
}

// holdDivisions says whether a quotient times b, and what is left over, together are a, and what is left over is less than b.
func holdDivisions(t *testing.T, a, b uint32) {
	t.Helper()
	if b == 0 {
		return
	}
	for _, c := range []struct{ often, left string }{{"OpUDiv", "OpUMod"}, {"OpSDiv", "OpSRem"}} {
		left := binaryOf(t, c.left, a, b)
		if binaryOf(t, "OpIAdd", binaryOf(t, "OpIMul", binaryOf(t, c.often, a, b), b), left) != a {
			t.Errorf("%s of %d %d times %d, and %s, are not %d", c.often, a, b, b, c.left, a)
		}
		if c.left == "OpUMod" && left >= b || c.left == "OpSRem" && size(left) >= size(b) {
			t.Errorf("%s of %d %d is %d", c.left, a, b, left)
		}
	}
}

// holdOneOfThree says whether just one is true of below, the same, and above.
func holdOneOfThree(t *testing.T, a, b uint32) {
	t.Helper()
	for _, names := range [][]string{{"OpULessThan", "OpIEqual", "OpUGreaterThan"}, {"OpSLessThan", "OpIEqual", "OpSGreaterThan"}} {
		n := uint32(0)
		for _, name := range names {
			n += binaryOf(t, name, a, b)
		}
		if n != 1 {
			t.Errorf("%d of %v are true of %d %d", n, names, a, b)
		}
	}
}

// holdBack says whether OpBitReverse and OpNot, each twice, are the word.
func holdBack(t *testing.T, a uint32) {
	t.Helper()
	for _, name := range []string{"OpBitReverse", "OpNot"} {
		if x := unaryOf(t, name, unaryOf(t, name, a)); x != a {
			t.Errorf("%s of %s of %d is %d", name, name, a, x)
		}
	}
}

// holdPutAndTaken says whether what is put into a field is taken from it: as many of its lower bits as the field has.
func holdPutAndTaken(t *testing.T, a, b, offset, count uint32) {
	t.Helper()
	n := min(uint64(count), 32-uint64(offset)%32)
	lower := uint32(uint64(b) % (1 << n))
	whole := fieldOf(t, "OpBitFieldInsert", a, b, offset, count)
	if x := fieldOf(t, "OpBitFieldUExtract", whole, offset, count); x != lower {
		t.Errorf("OpBitFieldUExtract of OpBitFieldInsert of %d %d %d %d is %d; not %d", a, b, offset, count, x, lower)
	}
}

// P13.4: of the edges with one another.
func TestFollowsAtEdges(t *testing.T) {
	for _, a := range edges() {
		holdBack(t, a)
		for _, b := range edges() {
			holdDivisions(t, a, b)
			holdOneOfThree(t, a, b)
			for _, c := range row(0, 1, 2, 1<<31-1, 1<<31, top) {
				holdSums(t, a, b, c)
			}
			for _, offset := range row(0, 1, 16, 30, 31, 32, 33, top) {
				for _, count := range row(0, 1, 2, 31, 32, 33, top) {
					holdPutAndTaken(t, a, b, offset, count)
				}
			}
		}
	}
}

// P13.4: of words made by chance.
func TestFollowsByChance(t *testing.T) {
	d := dice(136)
	for range 20000 {
		a, b := d.word(), d.word()
		holdBack(t, a)
		holdSums(t, a, b, d.word())
		holdDivisions(t, a, b)
		holdOneOfThree(t, a, b)
		holdOneOfThree(t, a, a)
		holdPutAndTaken(t, a, b, d.word(), d.word())
	}
}
