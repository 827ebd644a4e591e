package consts

import (
	"slices"
	"strings"
	"testing"

	"intaglio/api"
)

// P11.3: the chapter's examples.
func TestFindExamples(t *testing.T) {
	p := pool(t, fronted("%30 = OpConstantComposite %6 %18 %18"))
	holdFound(t, p, 30, 6, 7, 7)
	holdFound(t, p, 0, 6, 7)
	holdFound(t, p, 18, 3, 7)
	holdFound(t, p, 19, 2, 1)
}

// P11.3: of several constants of one value the first one by its place is found, whatever its id and its operation.
func TestFindFirst(t *testing.T) {
	p := pool(t, many())
	holdFound(t, p, 18, 3, 7)
	holdFound(t, p, 24, 6, 7, 3)
	holdFound(t, p, 25, 6, 0, 0)
	holdFound(t, p, 21, 2, 0)
	holdFound(t, p, 19, 2, 1)
	holdFound(t, p, 35, 3, 0)
	holdFound(t, p, 33, 4, 0)
	holdFound(t, p, 40, 16, 7)
	holdFound(t, p, 42, 41, 7)
	holdFound(t, p, 29, 9, 0, 0, 0, 0, 0, 0)
	holdFound(t, p, 31, 10, make([]uint32, 18)...)
}

// P11.3: three constants of noughts of one type, in whatever order.
func TestFindFirstOfThree(t *testing.T) {
	for _, c := range []struct {
		typeId uint32
		size   int
		lines  string
		ahead  []string
	}{
		{2, 1, "OpConstantFalse %2|OpUndef %2|OpConstantNull %2", nil},
		{3, 1, "OpConstant %3 0|OpUndef %3|OpConstantNull %3", nil},
		{6, 2, "OpUndef %6|OpConstantNull %6|OpConstantComposite %6 %97 %97", []string{"%97 = OpConstant %3 0"}},
	} {
		for _, order := range [][]int{{0, 1, 2}, {0, 2, 1}, {1, 0, 2}, {1, 2, 0}, {2, 0, 1}, {2, 1, 0}} {
			more := slices.Clone(c.ahead)
			for k, n := range order {
				more = append(more, []string{"%52", "%40", "%46"}[k]+" = "+strings.Split(c.lines, "|")[n])
			}
			holdFound(t, pool(t, fronted(more...)), 52, c.typeId, make([]uint32, c.size)...)
		}
	}
}

// P11.3: the type is asked by its id: of types of one text, and of one shape, each finds its own.
func TestFindByType(t *testing.T) {
	p := pool(t, fronted("%30 = OpTypeStruct %3", "%31 = OpConstantComposite %30 %18", "%32 = OpConstant %4 9", "%33 = OpTypeStruct %2"))
	holdFound(t, p, 31, 30, 7)
	holdFound(t, p, 0, 16, 7)
	holdFound(t, p, 32, 4, 9)
	holdFound(t, p, 0, 3, 9)
	holdFound(t, p, 0, 4, 7)
	holdFound(t, p, 0, 33, 7)
	holdFound(t, p, 0, 2, 7)
}

// P11.3: nothing is found of no words, of fewer and of more than the type has, of a type that is none, of words that no constant has.
func TestFindNone(t *testing.T) {
	p := pool(t, many())
	for _, typeId := range append(noIds(), 1, 2, 3, 4, 6, 7, 8, 9, 10, 11, 15, 18, 20, 24, 50, 60, 61) {
		holdFound(t, p, 0, typeId)
		holdFound(t, p, 0, typeId, 12345)
		holdFound(t, p, 0, typeId, 12345, 7, 3)
		holdFound(t, p, 0, typeId, make([]uint32, 17)...)
		holdFound(t, p, 0, typeId, make([]uint32, 5000)...)
	}
	for _, typeId := range append(noIds(), 1, 5, 11, 15, 18, 20, 24, 50, 60, 61) {
		holdFound(t, p, 0, typeId, 7)
		holdFound(t, p, 0, typeId, 0)
		holdFound(t, p, 0, typeId, 1)
		holdFound(t, p, 0, typeId, 7, 3)
	}
	for _, w := range [][]uint32{{7}, {3, 7}, {7, 3, 0}, {0, 7, 3}, {7, 4}, {6, 3}, {0}, {0, 0, 0}, {}} {
		holdFound(t, p, 0, 6, w...)
	}
	for _, w := range [][]uint32{{2}, {1, 0}, {0, 1}, {0, 0}, {1 << 31}} {
		holdFound(t, p, 0, 2, w...)
	}
	empty := pool(t, modelled("%1 = OpTypeBool"))
	holdFound(t, empty, 0, 1, 0)
	holdFound(t, empty, 0, 1)
	holdFound(t, empty, 0, 0)
	holdFound(t, pool(t, modelled()), 0, 0)
}

// P11.3: each of a row of numbers, and of vectors of them, is found at its own constant, and its neighbours are not.
func TestFindMany(t *testing.T) {
	const n = 20000
	l := []api.Inst{model(), inst(21, 0, 1, aNumber(32), aNumber(0)), inst(23, 0, 2, anId(1), aNumber(2))}
	for k := range uint32(n) {
		l = append(l, inst(43, 1, 3+k, aNumber(k*k)))
	}
	for k := range uint32(n) {
		l = append(l, inst(44, 2, 3+n+k, anId(3+k), anId(3+(k*7)%n)))
	}
	p := pool(t, module(3+2*n, l...))
	for k := range uint32(n) {
		other := (k * 7) % n
		holdFound(t, p, 3+k, 1, k*k)
		holdFound(t, p, 3+n+k, 2, k*k, other*other)
		if k > 1 {
			holdFound(t, p, 0, 1, k*k+1)
			holdFound(t, p, 0, 2, k*k, other*other+1)
		}
	}
}

// P11.3: values of which the pool's sums are one are told apart all the same.
func TestFindEqualSums(t *testing.T) {
	// A long row of words and the same with 0 and 1 for each other have one sum, whatever the base, if it is the row of Thue and Morse.
	const n = 4096
	a, b := make([]uint32, n), make([]uint32, n)
	for k := range a {
		for bit := k; bit > 0; bit &= bit - 1 {
			a[k] ^= 1
		}
		b[k] = 1 - a[k]
	}
	if sumOf(a) != sumOf(b) {
		t.Fatal("the sums are not one")
	}
	args := func(w []uint32) []api.Arg {
		var l []api.Arg
		for _, bit := range w {
			l = append(l, anId(3+bit))
		}
		return l
	}
	l := []api.Inst{model(), inst(21, 0, 1, aNumber(32), aNumber(0)), inst(43, 1, 2, aNumber(n)), inst(28, 0, 9, anId(1), anId(2)), inst(43, 1, 3, aNumber(0)), inst(43, 1, 4, aNumber(1))}
	m := module(12, append(l, inst(44, 9, 10, args(a)...))...)
	p := pool(t, m)
	holdFound(t, p, 10, 9, a...)
	holdFound(t, p, 0, 9, b...)
	m = module(12, append(l, inst(44, 9, 10, args(a)...), inst(44, 9, 11, args(b)...))...)
	p = pool(t, m)
	holdFound(t, p, 10, 9, a...)
	holdFound(t, p, 11, 9, b...)
}

// P11.3: the sum of a composite is that of its words, however they are put together.
func TestSums(t *testing.T) {
	d := dice(113)
	for range 2000 {
		var w []uint32
		sum := uint64(0)
		for range d.below(6) {
			part := make([]uint32, 1+d.below(9))
			for k := range part {
				part[k] = d.oneOf(0, 1, 7, 1<<31, 1<<32-1, uint32(d.below(1<<31)))
			}
			sum = joined(sum, sumOf(part), len(part))
			w = append(w, part...)
		}
		if sum != sumOf(w) {
			t.Fatalf("the sum of %v: %d; not %d", w, sum, sumOf(w))
		}
	}
}
