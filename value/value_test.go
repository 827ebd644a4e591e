package value

import (
	"math"
	"slices"
	"testing"

	"intaglio/api"
)

// P12.1: the chapter's examples.
func TestValueExamples(t *testing.T) {
	x := table(t)
	if w, e := Zero(x, aStruct); !slices.Equal(w, row(0, 0, 0)) || e != api.OK {
		t.Errorf("Zero: %v, %d", w, e)
	}
	if l := told(x, aStruct); !slices.Equal(l, row(aBool, anInt, anInt)) {
		t.Errorf("Leaves: %v", l)
	}
	for _, c := range []struct {
		ty   uint32
		w    []uint32
		want bool
	}{{aBool, row(1), true}, {aBool, row(2), false}, {aBool, nil, false}, {anInt, row(4294967295), true}, {aVoid, nil, false}, {aVoid, row(0), false}} {
		if Fits(x, c.ty, c.w) != c.want {
			t.Errorf("Fits of %d, %v", c.ty, c.w)
		}
	}
}

// P12.1: Zero has as many noughts as the type has words.
func TestZero(t *testing.T) {
	x := table(t)
	for ty, size := range map[uint32]int{aBool: 1, anUint: 1, anInt: 1, aPair: 2, aStruct: 3, anArray: 9, aTruths: 4, aTriple: 3, aMix: 16, aBox: 1, aBoxed: 1, anOne: 1, aGrid: 27, aBits: 4096, aHeap: 4096, aDeep: 1} {
		if w, e := Zero(x, ty); len(w) != size || slices.ContainsFunc(w, func(n uint32) bool { return n != 0 }) || e != api.OK {
			t.Errorf("Zero of %d: %v, %d", ty, w, e)
		}
	}
	for _, ty := range otherIds() {
		if w, e := Zero(x, ty); len(w) != 0 || e != api.ErrNoType {
			t.Errorf("Zero of %d: %v, %d", ty, w, e)
		}
	}
}

// P12.1: the leaves of types within types, numbered from 0 on.
func TestLeaves(t *testing.T) {
	x := table(t)
	three := row(aBool, anInt, anInt)
	for ty, want := range map[uint32][]uint32{
		aBool: row(aBool), anUint: row(anUint), anInt: row(anInt), aPair: row(anInt, anInt), aStruct: three, anArray: slices.Repeat(three, 3),
		aTruths: slices.Repeat(row(aBool), 4), aTriple: slices.Repeat(row(anUint), 3),
		aMix: slices.Concat(row(anUint), slices.Repeat(three, 3), slices.Repeat(row(aBool), 4), row(anInt, aBool)),
		aBox: row(aBool), aBoxed: row(aBool), anOne: row(anInt), aGrid: slices.Repeat(row(anUint), 27), aDeep: row(aBool),
		aBits: slices.Repeat(row(aBool), 4096), aHeap: slices.Repeat(row(aBool), 4096),
	} {
		if l := told(x, ty); !slices.Equal(l, want) {
			t.Errorf("Leaves of %d: %v", ty, l)
		}
	}
	for _, ty := range otherIds() {
		for n, leaf := range Leaves(x, ty) {
			t.Errorf("Leaves of %d: %d, %d", ty, n, leaf)
		}
	}
}

// P12.1: as many words as the type has, not one less and not one more.
func TestFitsCount(t *testing.T) {
	x := table(t)
	for _, ty := range append(plainIds(), aBits, aHeap) {
		w, _ := Zero(x, ty)
		if !Fits(x, ty, w) || !Fits(x, ty, counted(x, ty)) {
			t.Errorf("%d does not fit", ty)
		}
		if Fits(x, ty, nil) || Fits(x, ty, row()) || Fits(x, ty, w[1:]) || Fits(x, ty, w[:len(w)-1]) || Fits(x, ty, append(w, 0)) || Fits(x, ty, slices.Repeat(w, 2)) {
			t.Errorf("%d fits with too few words, or with too many", ty)
		}
	}
	for _, ty := range otherIds() {
		if Fits(x, ty, nil) || Fits(x, ty, row(0)) || Fits(x, ty, row(1, 1)) {
			t.Errorf("%d fits", ty)
		}
	}
}

// P12.1: at the leaf of a truth 0 and 1 may stand, at that of a number all words.
func TestFitsTruths(t *testing.T) {
	x := table(t)
	for _, ty := range append(plainIds(), aBits, aHeap) {
		w := counted(x, ty)
		for n, leaf := range saidLeaves(x, ty) {
			if len(w) > 100 && n%1023 > 1 {
				continue
			}
			before := w[n]
			for _, word := range row(0, 1, 2, 3, 255, 256, 257, 65536, 65537, math.MaxInt32, 1<<31, 1<<31+1, math.MaxUint32) {
				w[n] = word
				if want := word <= 1 || leaf != aBool; Fits(x, ty, w) != want {
					t.Errorf("Fits of %d, %v", ty, w)
				}
			}
			w[n] = before
		}
	}
}
