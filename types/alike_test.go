package types

import (
	"slices"
	"strconv"
	"testing"

	"intaglio/api"
)

// holdClasses says whether the types of each of these lists are alike, and those of no two lists are; from both sides.
func holdClasses(t *testing.T, x *Table, classes ...[]uint32) {
	t.Helper()
	for n, a := range classes {
		for k, b := range classes {
			for _, p := range a {
				for _, q := range b {
					if x.Alike(p, q) != (n == k) {
						t.Errorf("Alike of %d and %d: %v", p, q, x.Alike(p, q))
					}
				}
			}
		}
	}
}

// P10.5: truths, numbers with a sign or without, vectors, arrays and structs of as many parts that are alike; vectors, arrays and structs of the same parts are not.
func TestAlike(t *testing.T) {
	x := table(t, fronted(
		"%6 = OpConstant %3 2", "%7 = OpConstant %4 2", "%8 = OpConstant %3 1",
		"%10 = OpTypeVector %2 2", "%11 = OpTypeVector %3 2", "%12 = OpTypeVector %4 2", "%13 = OpTypeVector %3 3", "%14 = OpTypeVector %4 3", "%15 = OpTypeVector %2 3",
		"%20 = OpTypeArray %3 %6", "%21 = OpTypeArray %4 %7", "%22 = OpTypeArray %2 %6", "%23 = OpTypeArray %3 %5", "%24 = OpTypeArray %4 %8",
		"%25 = OpTypeArray %11 %6", "%26 = OpTypeArray %12 %6", "%27 = OpTypeArray %20 %6", "%28 = OpTypeArray %21 %7",
		"%30 = OpTypeStruct %3 %3", "%31 = OpTypeStruct %4 %3", "%32 = OpTypeStruct %3 %4", "%33 = OpTypeStruct %4 %4",
		"%34 = OpTypeStruct %3 %2", "%35 = OpTypeStruct %4 %2", "%36 = OpTypeStruct %2 %3", "%37 = OpTypeStruct %3", "%38 = OpTypeStruct %2", "%39 = OpTypeStruct %4 %4 %4",
		"%40 = OpTypeStruct %11 %30", "%41 = OpTypeStruct %12 %33", "%42 = OpTypeStruct %12 %21", "%43 = OpTypeStruct %30 %11", "%44 = OpTypeStruct %40 %40", "%45 = OpTypeStruct %41 %40", "%46 = OpTypeStruct %40 %42", "%47 = OpTypeStruct %37",
		"%50 = OpTypePointer Input %3", "%51 = OpTypePointer Input %4", "%52 = OpTypeFunction %3", "%53 = OpTypeFunction %4",
	))
	holdClasses(t, x, []uint32{2}, []uint32{3, 4}, []uint32{10}, []uint32{11, 12}, []uint32{13, 14}, []uint32{15},
		[]uint32{20, 21}, []uint32{22}, []uint32{23}, []uint32{24}, []uint32{25, 26}, []uint32{27, 28},
		[]uint32{30, 31, 32, 33}, []uint32{34, 35}, []uint32{36}, []uint32{37}, []uint32{38}, []uint32{39},
		[]uint32{40, 41}, []uint32{42}, []uint32{43}, []uint32{44, 45}, []uint32{46}, []uint32{47})
	// What is not plain is alike to nothing, not even to itself.
	for _, id := range []uint32{1, 50, 51, 52, 53, 5, 0, 99} {
		for other := range uint32(60) {
			if x.Alike(id, other) || x.Alike(other, id) {
				t.Errorf("%d and %d are alike", id, other)
			}
		}
	}
}

// P10.5: structs of very many members that differ in one alone; types deep within one another.
func TestAlikeFar(t *testing.T) {
	lines := []string{"%6 = OpTypeStruct" + repeat("%3", 256), "%7 = OpTypeStruct" + repeat("%4", 256), "%8 = OpTypeStruct" + repeat("%3", 255) + " %2", "%9 = OpTypeStruct %2" + repeat("%3", 255), "%10 = OpTypeStruct" + repeat("%3", 255)}
	lines = slices.Concat(lines, nested(20, "%6", 14), nested(40, "%7", 14), nested(60, "%8", 14))
	x := table(t, fronted(lines...))
	holdClasses(t, x, []uint32{6, 7}, []uint32{8}, []uint32{9}, []uint32{10}, []uint32{33, 53}, []uint32{73}, []uint32{32, 52}, []uint32{72})
}

// P10.5: types that would be gone through very often, if one would go through each of their parts.
func TestAlikeManyParts(t *testing.T) {
	lines := []string{"%6 = OpConstant %3 8"}
	for k, part := range []string{"%3", "%4"} {
		from := 20 + 20*k
		for n := range 4 {
			id := "%" + strconv.Itoa(from+n)
			lines = append(lines, id+" = OpTypeArray "+part+" %6")
			part = id
		}
		for n := range 11 {
			id := "%" + strconv.Itoa(from+4+n)
			lines = append(lines, id+" = OpTypeStruct "+part)
			part = id
		}
	}
	x := table(t, fronted(lines...))
	if x.Size(34) != 4096 || !x.Alike(34, 54) || x.Alike(34, 53) || x.Alike(33, 54) {
		t.Error("types in one another")
	}
}

// P10.5: all pairs of the types of a module, held against the chapter's words.
func TestAlikeSaid(t *testing.T) {
	for _, m := range []api.Module{many(), examples()} {
		holdSaid(t, table(t, m), m)
	}
}
