package value

import (
	"math"
	"slices"
	"strings"
	"testing"

	"intaglio/api"
)

// P12.3: the chapter's examples.
func TestTextExamples(t *testing.T) {
	x := table(t)
	holdText(t, x, aStruct, row(1, 4294967295, 5), "{true, {-1, 5}}", api.OK)
	holdText(t, x, anUint, row(4294967295), "4294967295", api.OK)
}

// P12.3: truths, and numbers at the edges, with a sign and without.
func TestTextOfLeaves(t *testing.T) {
	x := table(t)
	holdText(t, x, aBool, row(0), "false", api.OK)
	holdText(t, x, aBool, row(1), "true", api.OK)
	for _, c := range []struct {
		word      uint32
		uint, int string
	}{
		{0, "0", "0"}, {1, "1", "1"}, {9, "9", "9"}, {10, "10", "10"}, {1<<31 - 1, "2147483647", "2147483647"}, {1 << 31, "2147483648", "-2147483648"},
		{1<<31 + 1, "2147483649", "-2147483647"}, {math.MaxUint32 - 9, "4294967286", "-10"}, {math.MaxUint32, "4294967295", "-1"},
	} {
		holdText(t, x, anUint, row(c.word), c.uint, api.OK)
		holdText(t, x, anInt, row(c.word), c.int, api.OK)
	}
}

// P12.3: vectors, arrays and structs, within one another.
func TestTextOfParts(t *testing.T) {
	x := table(t)
	holdText(t, x, aPair, row(1, minus(2)), "{1, -2}", api.OK)
	holdText(t, x, aTruths, row(1, 0, 0, 1), "{true, false, false, true}", api.OK)
	holdText(t, x, aTriple, row(minus(1), 0, 7), "{4294967295, 0, 7}", api.OK)
	holdText(t, x, aBox, row(0), "{false}", api.OK)
	holdText(t, x, aBoxed, row(1), "{{true}}", api.OK)
	holdText(t, x, anOne, row(5), "{5}", api.OK)
	holdText(t, x, aDeep, row(1), strings.Repeat("{", 15)+"true"+strings.Repeat("}", 15), api.OK)
	holdText(t, x, anArray, row(1, 2, 3, 0, 4, 5, 1, 6, 7), "{{true, {2, 3}}, {false, {4, 5}}, {true, {6, 7}}}", api.OK)
	holdText(t, x, aMix, row(5, 1, 2, 3, 0, 4, 5, 1, 6, 7, 0, 1, 1, 0, minus(9), 1), "{5, {{true, {2, 3}}, {false, {4, 5}}, {true, {6, 7}}}, {false, true, true, false}, -9, true}", api.OK)
	holdText(t, x, aBits, slices.Repeat(row(1), 4096), "{true"+strings.Repeat(", true", 4095)+"}", api.OK)
}

// P12.3: what is no value has no text.
func TestTextOfNoValue(t *testing.T) {
	x := table(t)
	for _, ty := range plainIds() {
		w := counted(x, ty)
		for _, bad := range [][]uint32{nil, w[1:], w[:len(w)-1], append(slices.Clone(w), 0), append(row(0), w...)} {
			holdText(t, x, ty, bad, "", api.ErrArg)
		}
		for n, leaf := range saidLeaves(x, ty) {
			bad := slices.Clone(w)
			bad[n] = 2
			if leaf == aBool {
				holdText(t, x, ty, bad, "", api.ErrArg)
			}
		}
	}
}
