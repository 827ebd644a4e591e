package types

import (
	"slices"
	"testing"

	"intaglio/api"
)

// examples are the chapter's: V, B, U, S and C are 1 to 5.
func examples() api.Module {
	return fronted("%6 = OpTypeVector %4 3", "%7 = OpTypeArray %6 %5", "%8 = OpTypeStruct %4 %7", "%9 = OpTypePointer Function %4", "%10 = OpTypeFunction %1 %4", "%11 = OpTypeVector %4 2", "%12 = OpTypeVector %3 2", "%13 = OpConstant %3 2", "%14 = OpTypeArray %4 %13")
}

// holdPart says whether Part answers that.
func holdPart(t *testing.T, x *Table, id uint32, k int, want uint32, wantIs bool) {
	t.Helper()
	if p, is := x.Part(id, k); p != want || is != wantIs {
		t.Errorf("Part %d of %d: %d, %v; not %d, %v", k, id, p, is, want, wantIs)
	}
}

// holdOffset says whether Offset answers that.
func holdOffset(t *testing.T, x *Table, id uint32, k, want int, wantIs bool) {
	t.Helper()
	if n, is := x.Offset(id, k); n != want || is != wantIs {
		t.Errorf("Offset %d of %d: %d, %v; not %d, %v", k, id, n, is, want, wantIs)
	}
}

// holdText says whether Text answers that, and true.
func holdText(t *testing.T, x *Table, id uint32, want string) {
	t.Helper()
	if s, is := x.Text(id); s != want || !is {
		t.Errorf("Text of %d: %q, %v; not %q", id, s, is, want)
	}
}

// holdNumbers says whether Kind, Count and Size answer these.
func holdNumbers(t *testing.T, x *Table, id uint32, kind uint8, count, size int) {
	t.Helper()
	if x.Kind(id) != kind || x.Count(id) != count || x.Size(id) != size {
		t.Errorf("%d: kind %d, count %d, size %d; not %d, %d, %d", id, x.Kind(id), x.Count(id), x.Size(id), kind, count, size)
	}
}

// P10.2 to P10.5: the chapter's examples.
func TestExamples(t *testing.T) {
	x := table(t, examples())
	holdNumbers(t, x, 6, 4, 3, 3)
	holdText(t, x, 6, "vec3(int)")
	holdNumbers(t, x, 7, 5, 3, 9)
	holdOffset(t, x, 7, 2, 6, true)
	holdOffset(t, x, 7, 3, 0, false)
	holdText(t, x, 7, "array3(vec3(int))")
	holdNumbers(t, x, 8, 6, 2, 10)
	holdOffset(t, x, 8, 1, 1, true)
	holdPart(t, x, 8, 1, 7, true)
	if c, is := x.Class(9); c != 7 || !is {
		t.Errorf("Class: %d, %v", c, is)
	}
	holdNumbers(t, x, 9, 7, 1, 0)
	holdText(t, x, 9, "Function(int)")
	holdNumbers(t, x, 10, 8, 2, 0)
	holdPart(t, x, 10, 0, 1, true)
	holdText(t, x, 10, "fn(void,int)")
	if !x.Alike(4, 3) || !x.Alike(11, 12) || x.Alike(11, 14) {
		t.Error("Alike")
	}
}

// P10.2: the ids, in the order of their instructions, whatever their numbers are.
func TestIds(t *testing.T) {
	for _, c := range []struct {
		m    api.Module
		want []uint32
	}{
		{modelled(), nil},
		{modelled("%9 = OpTypeBool"), []uint32{9}},
		{fronted(), []uint32{1, 2, 3, 4}},
		{modelled(`%5 = OpString "a"`, "%9 = OpTypeBool", "%3 = OpTypeVector %9 2", "%7 = OpTypeVoid", "%4 = OpConstantTrue %9", "%2 = OpTypeStruct %3", "%8 = OpTypeStruct %3", "%1 = OpTypeFunction %7"), []uint32{9, 3, 7, 2, 8, 1}},
		{many(), []uint32{1, 2, 3, 4, 6, 7, 8, 9, 10, 11, 12, 13, 14, 15, 16, 17, 18, 19, 30, 31, 32, 33, 34, 35, 36, 37, 38, 39}},
	} {
		if l := table(t, c.m).Ids(); !slices.Equal(l, c.want) {
			t.Errorf("Ids: %v; not %v", l, c.want)
		}
	}
}

// P10.2: kinds, signs, and which types are plain.
func TestKinds(t *testing.T) {
	x := table(t, many())
	for id, kind := range map[uint32]uint8{1: 1, 2: 2, 3: 3, 4: 3, 6: 4, 11: 4, 12: 4, 7: 5, 13: 5, 17: 5, 8: 6, 15: 6, 16: 6, 9: 7, 18: 7, 19: 7, 30: 7, 10: 8, 31: 8, 32: 8, 33: 8} {
		if x.Kind(id) != kind {
			t.Errorf("Kind of %d: %d; not %d", id, x.Kind(id), kind)
		}
		if x.Signed(id) != (id == 4) {
			t.Errorf("Signed of %d: %v", id, x.Signed(id))
		}
		if x.Plain(id) != (kind >= 2 && kind <= 6) {
			t.Errorf("Plain of %d: %v", id, x.Plain(id))
		}
	}
}

// P10.2 to P10.5: of what is no type there is nothing: of other things that are made, of ids that are not, of numbers that are no ids.
func TestNoTypes(t *testing.T) {
	for _, m := range []api.Module{modelled(), many()} {
		x := table(t, m)
		for _, id := range append(noIds(), 20, 21, 22, 24, 25, 26, 60, 61) {
			holdNothing(t, x, id)
		}
	}
}

// holdNothing says whether there is nothing of an id.
func holdNothing(t *testing.T, x *Table, id uint32) {
	t.Helper()
	holdNumbers(t, x, id, 0, 0, 0)
	for _, k := range append(noParts(), 0, 1, 2) {
		holdPart(t, x, id, k, 0, false)
		holdOffset(t, x, id, k, 0, false)
	}
	if c, is := x.Class(id); c != 0 || is {
		t.Errorf("Class of %d: %d, %v", id, c, is)
	}
	if s, is := x.Text(id); s != "" || is {
		t.Errorf("Text of %d: %q, %v", id, s, is)
	}
	if x.Signed(id) || x.Plain(id) {
		t.Errorf("%d: signed %v, plain %v", id, x.Signed(id), x.Plain(id))
	}
	for _, other := range []uint32{id, 2, 4, 7, 8} {
		if x.Alike(id, other) || x.Alike(other, id) {
			t.Errorf("%d and %d are alike", id, other)
		}
	}
}

// P10.3: the parts, the first one, the last one, and none behind them or ahead; and how many there are.
func TestParts(t *testing.T) {
	x := table(t, many())
	for _, c := range []struct {
		id    uint32
		parts []uint32
	}{
		{1, nil}, {2, nil}, {3, nil}, {4, nil},
		{11, []uint32{2, 2}}, {6, []uint32{4, 4, 4}}, {12, []uint32{3, 3, 3, 3}},
		{13, []uint32{2}}, {7, []uint32{6, 6, 6}}, {17, []uint32{16, 16, 16, 16, 16, 16, 16}}, {14, slices.Repeat([]uint32{3}, 4096)},
		{15, []uint32{2}}, {8, []uint32{4, 7}}, {16, []uint32{8, 13, 2, 11, 8}},
		{9, []uint32{4}}, {18, []uint32{17}}, {19, []uint32{2}}, {30, []uint32{14}},
		{32, []uint32{1}}, {31, []uint32{17}}, {10, []uint32{1, 4}}, {33, []uint32{2, 18, 16, 4, 4}},
	} {
		if n := x.Count(c.id); n != len(c.parts) {
			t.Errorf("Count of %d: %d; not %d", c.id, n, len(c.parts))
		}
		for k, p := range c.parts {
			holdPart(t, x, c.id, k, p, true)
		}
		for _, k := range append(noParts(), len(c.parts), len(c.parts)+1) {
			holdPart(t, x, c.id, k, 0, false)
		}
	}
}

// P10.3: a pointer of each class, and of no other type a class.
func TestClass(t *testing.T) {
	x := table(t, many())
	classes := map[uint32]uint32{9: 7, 18: 1, 19: 3, 30: 6, 36: 7, 37: 7}
	for _, id := range x.Ids() {
		want, wantIs := classes[id]
		if c, is := x.Class(id); c != want || is != wantIs {
			t.Errorf("Class of %d: %d, %v; not %d, %v", id, c, is, want, wantIs)
		}
	}
}

// P10.4: the sizes.
func TestSize(t *testing.T) {
	x := table(t, many())
	for id, want := range map[uint32]int{1: 0, 2: 1, 3: 1, 4: 1, 6: 3, 11: 2, 12: 4, 7: 9, 8: 10, 13: 1, 14: 4096, 15: 1, 16: 24, 17: 168, 9: 0, 18: 0, 19: 0, 30: 0, 10: 0, 31: 0, 32: 0, 33: 0, 34: 10, 39: 4} {
		if n := x.Size(id); n != want {
			t.Errorf("Size of %d: %d; not %d", id, n, want)
		}
	}
	wide := table(t, fronted("%6 = OpTypeStruct"+repeat("%2", 256), "%7 = OpTypeStruct %6"+repeat("%4", 254)+" %6"))
	holdNumbers(t, wide, 6, 6, 256, 256)
	holdNumbers(t, wide, 7, 6, 256, 766)
	holdOffset(t, wide, 6, 255, 255, true)
	holdOffset(t, wide, 7, 1, 256, true)
	holdOffset(t, wide, 7, 255, 510, true)
	holdOffset(t, wide, 7, 256, 0, false)
}

// P10.4: the offsets of vectors, arrays and structs; of no others.
func TestOffset(t *testing.T) {
	x := table(t, many())
	for _, c := range []struct {
		id   uint32
		want []int
	}{
		{11, []int{0, 1}}, {6, []int{0, 1, 2}}, {12, []int{0, 1, 2, 3}}, {13, []int{0}}, {7, []int{0, 3, 6}}, {17, []int{0, 24, 48, 72, 96, 120, 144}},
		{15, []int{0}}, {8, []int{0, 1}}, {16, []int{0, 10, 11, 12, 14}},
		{1, nil}, {2, nil}, {3, nil}, {4, nil}, {9, nil}, {18, nil}, {19, nil}, {30, nil}, {10, nil}, {31, nil}, {32, nil}, {33, nil},
	} {
		for k, n := range c.want {
			holdOffset(t, x, c.id, k, n, true)
		}
		for _, k := range append(noParts(), len(c.want), len(c.want)+1, len(c.want)+2) {
			holdOffset(t, x, c.id, k, 0, false)
		}
	}
	holdOffset(t, x, 14, 0, 0, true)
	holdOffset(t, x, 14, 4095, 4095, true)
	holdOffset(t, x, 14, 4096, 0, false)
}
