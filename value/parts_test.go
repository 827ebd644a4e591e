package value

import (
	"math"
	"slices"
	"testing"

	"intaglio/api"
)

// P12.2: the chapter's examples.
func TestPartsExamples(t *testing.T) {
	x := table(t)
	w := row(1, 7, 8)
	holdGet(t, x, aStruct, w, row(1, 1), anInt, row(8), api.OK)
	holdGet(t, x, aStruct, w, row(1), aPair, row(7, 8), api.OK)
	holdGet(t, x, aStruct, w, nil, aStruct, w, api.OK)
	holdGet(t, x, aStruct, w, row(), aStruct, w, api.OK)
	holdGet(t, x, aStruct, w, row(2), 0, nil, api.ErrPlace)
	holdGet(t, x, aStruct, w, row(0, 0), 0, nil, api.ErrPlace)
	holdPut(t, x, aStruct, w, row(1, 0), row(9), row(1, 9, 8), api.OK)
	holdPut(t, x, aStruct, w, row(0), row(2), nil, api.ErrArg)
	holdPut(t, x, aStruct, w, row(1), row(5), nil, api.ErrArg)
}

// P12.2: parts of parts, by paths of every length.
func TestGet(t *testing.T) {
	x := table(t)
	w := row(5, 1, 10, 11, 0, 12, 13, 1, 14, 15, 0, 1, 1, 0, minus(1), 1)
	for _, c := range []struct {
		path []uint32
		ty   uint32
		want []uint32
	}{
		{nil, aMix, w}, {row(0), anUint, row(5)}, {row(1), anArray, w[1:10]}, {row(2), aTruths, row(0, 1, 1, 0)}, {row(3), anInt, row(minus(1))}, {row(4), aBool, row(1)},
		{row(1, 0), aStruct, row(1, 10, 11)}, {row(1, 1), aStruct, row(0, 12, 13)}, {row(1, 2), aStruct, row(1, 14, 15)},
		{row(2, 0), aBool, row(0)}, {row(2, 1), aBool, row(1)}, {row(2, 2), aBool, row(1)}, {row(2, 3), aBool, row(0)},
		{row(1, 0, 0), aBool, row(1)}, {row(1, 1, 0), aBool, row(0)}, {row(1, 2, 1), aPair, row(14, 15)},
		{row(1, 0, 1, 0), anInt, row(10)}, {row(1, 1, 1, 1), anInt, row(13)}, {row(1, 2, 1, 0), anInt, row(14)}, {row(1, 2, 1, 1), anInt, row(15)},
	} {
		holdGet(t, x, aMix, w, c.path, c.ty, c.want, api.OK)
	}
	grid := counted(x, aGrid)
	holdGet(t, x, aGrid, grid, row(1, 2), aTriple, row(16, 17, 18), api.OK)
	holdGet(t, x, aGrid, grid, row(2, 0, 1), anUint, row(20), api.OK)
	for n := range 16 {
		ty := uint32(aDeep - n)
		if n == 15 {
			ty = aBool
		}
		holdGet(t, x, aDeep, row(1), make([]uint32, n), ty, row(1), api.OK)
	}
}

// P12.2: the part ahead of the first, behind the last, and numbers that are huge lead nowhere; so does each number behind a truth or a number.
func TestNowhere(t *testing.T) {
	x := table(t)
	w := counted(x, aMix)
	for _, c := range []struct {
		path []uint32
		n    uint32 // how many parts there are
	}{{nil, 5}, {row(0), 0}, {row(1), 3}, {row(2), 4}, {row(3), 0}, {row(4), 0}, {row(1, 1), 2}, {row(2, 3), 0}, {row(1, 1, 0), 0}, {row(1, 1, 1), 2}, {row(1, 1, 1, 0), 0}} {
		for _, k := range row(0, 1, 2, 3, 4, 5, 255, 256, 65536, math.MaxInt32, 1<<31, 1<<31+1, math.MaxUint32-1, math.MaxUint32) {
			path := append(slices.Clone(c.path), k)
			if _, _, e := Get(x, aMix, w, path); (e == api.OK) != (k < c.n) {
				t.Errorf("Get by %v: %d", path, e)
			}
			if k >= c.n {
				for _, more := range [][]uint32{nil, row(0), row(0, 0), row(1, 1)} {
					holdGet(t, x, aMix, w, append(path, more...), 0, nil, api.ErrPlace)
					holdPut(t, x, aMix, w, append(path, more...), row(0), nil, api.ErrPlace)
				}
			}
		}
	}
	for _, ty := range row(aBool, anUint, anInt) {
		for _, k := range row(0, 1, math.MaxUint32) {
			holdGet(t, x, ty, row(1), row(k), 0, nil, api.ErrPlace)
			holdPut(t, x, ty, row(1), row(k), row(1), nil, api.ErrPlace)
		}
	}
	holdGet(t, x, aDeep, row(1), make([]uint32, 16), 0, nil, api.ErrPlace)
}

// P12.2: the words that are put stand in the place of the part's, all others stay.
func TestPut(t *testing.T) {
	x := table(t)
	w := row(5, 1, 10, 11, 0, 12, 13, 1, 14, 15, 0, 1, 1, 0, minus(1), 1)
	with := func(at int, part ...uint32) []uint32 {
		l := slices.Clone(w)
		copy(l[at:], part)
		return l
	}
	for _, c := range []struct {
		path []uint32
		at   int
		part []uint32
	}{
		{nil, 0, counted(x, aMix)}, {row(0), 0, row(math.MaxUint32)}, {row(1), 1, row(0, 1, 2, 0, 3, 4, 0, 5, 6)}, {row(2), 10, row(1, 0, 0, 1)}, {row(3), 14, row(1 << 31)}, {row(4), 15, row(0)},
		{row(1, 0), 1, row(0, 7, 8)}, {row(1, 2), 7, row(0, 7, 8)}, {row(2, 0), 10, row(1)}, {row(2, 3), 13, row(1)},
		{row(1, 1, 0), 4, row(1)}, {row(1, 1, 1), 5, row(21, 22)}, {row(1, 1, 1, 0), 5, row(23)}, {row(1, 2, 1, 1), 9, row(24)},
	} {
		holdPut(t, x, aMix, w, c.path, c.part, with(c.at, c.part...), api.OK)
	}
}

// P12.2: what is put has as many words as the part, and 0 or 1 at truths.
func TestPutNoPart(t *testing.T) {
	x := table(t)
	w := counted(x, aMix)
	for _, path := range allPaths(x, aMix) {
		ty, part, _ := Get(x, aMix, w, path)
		for _, bad := range [][]uint32{nil, part[1:], part[:len(part)-1], append(slices.Clone(part), 0), append(row(0), part...)} {
			holdPut(t, x, aMix, w, path, bad, nil, api.ErrArg)
		}
		for n, leaf := range saidLeaves(x, ty) {
			bad := slices.Clone(part)
			bad[n] = 2
			want, e := saidPut(x, aMix, w, path, bad)
			holdPut(t, x, aMix, w, path, bad, want, e)
			if (e == api.OK) != (leaf != aBool) {
				t.Errorf("the leaf %d of %d: %d", n, ty, e)
			}
		}
	}
}

// P12.2: what is no value of the type has no parts, and gets none.
func TestPartsOfNoValue(t *testing.T) {
	x := table(t)
	for _, path := range [][]uint32{nil, row(0), row(1), row(1, 0), row(1, 1)} {
		for _, w := range [][]uint32{nil, row(1), row(1, 2), row(1, 2, 3, 4), row(2, 7, 8), row(math.MaxUint32, 7, 8)} {
			holdGet(t, x, aStruct, w, path, 0, nil, api.ErrArg)
			holdPut(t, x, aStruct, w, path, row(1), nil, api.ErrArg)
		}
	}
}

// P12.2: all paths of all types, and each of them with one number more, held against the chapter's words.
func TestPartsSaid(t *testing.T) {
	x := table(t)
	for _, ty := range plainIds() {
		w := counted(x, ty)
		for _, path := range allPaths(x, ty) {
			holdSaidParts(t, x, ty, w, path)
			for k := range uint32(6) {
				holdSaidParts(t, x, ty, w, append(slices.Clone(path), k))
			}
		}
	}
}
