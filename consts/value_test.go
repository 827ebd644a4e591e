package consts

import (
	"math"
	"slices"
	"testing"

	"intaglio/api"
	"intaglio/types"
)

// P11.2: the chapter's examples.
func TestValueExamples(t *testing.T) {
	p := pool(t, fronted("%30 = OpConstantComposite %6 %18 %18", "%31 = OpConstantNull %6"))
	holdValue(t, p, 30, 6, 7, 7)
	holdValue(t, p, 31, 6, 0, 0)
	if l := p.Ids(); !slices.Equal(l, []uint32{5, 18, 19, 30, 31}) {
		t.Errorf("Ids: %v", l)
	}
}

// P11.2: a constant of each of the six operations, and of each kind of plain type.
func TestValueOfEach(t *testing.T) {
	p := pool(t, many())
	const most = math.MaxUint32
	holdValue(t, p, 5, 3, 3)
	holdValue(t, p, 18, 3, 7)
	holdValue(t, p, 19, 2, 1)
	holdValue(t, p, 21, 2, 0)
	holdValue(t, p, 22, 4, most)
	holdValue(t, p, 23, 4, 1<<31-1)
	holdValue(t, p, 24, 6, 7, 3)
	holdValue(t, p, 25, 6, 0, 0)
	holdValue(t, p, 26, 7, 1, 0, 0, 1)
	holdValue(t, p, 27, 8, most, 1<<31-1, most)
	holdValue(t, p, 28, 9, 1, 7, 3, most, 1<<31-1, most)
	holdValue(t, p, 29, 9, 0, 0, 0, 0, 0, 0)
	holdValue(t, p, 30, 10, 1, 7, 3, most, 1<<31-1, most, 0, 0, 0, 0, 0, 0, 1, 7, 3, most, 1<<31-1, most)
	holdValue(t, p, 31, 10, make([]uint32, 18)...)
	holdValue(t, p, 32, 2, 0)
	holdValue(t, p, 33, 4, 0)
	holdValue(t, p, 34, 2, 0)
	holdValue(t, p, 35, 3, 0)
	holdValue(t, p, 36, 3, 7)
	holdValue(t, p, 38, 7, 0, 0, 0, 0)
	holdValue(t, p, 39, 8, 0, 0, 0)
	holdValue(t, p, 40, 16, 7)
	holdValue(t, p, 42, 41, 7)
	holdValue(t, p, 44, 16, 0)
	holdValue(t, p, 46, 10, make([]uint32, 18)...)
}

// P11.2: Ids are by the places of their instructions, not by their numbers; variables, types and what functions make are none of them.
func TestIds(t *testing.T) {
	want := []uint32{5, 18, 19, 21, 22, 23, 24, 25, 26, 27, 28, 29, 30, 31, 32, 33, 34, 35, 36, 37, 38, 39, 40, 42, 43, 44, 45, 46, 47, 48}
	if l := pool(t, many()).Ids(); !slices.Equal(l, want) {
		t.Errorf("Ids: %v", l)
	}
	p := pool(t, fronted("%40 = OpUndef %2", "%39 = OpUndef %3", "%60 = OpVariable %11 Private", "%21 = OpConstantNull %6", "%22 = OpTypeStruct %2", "%98 = OpConstant %4 5", "%50 = OpConstantFalse %2"))
	if l := p.Ids(); !slices.Equal(l, []uint32{5, 18, 19, 40, 39, 21, 98, 50}) {
		t.Errorf("Ids: %v", l)
	}
}

// P11.2: what is no constant has no value: 0, an id that is not made, a type, a variable, a text's id, a function, a label, ids above the bound.
func TestNoValue(t *testing.T) {
	p := pool(t, many())
	for _, id := range append(noIds(), 1, 2, 3, 4, 6, 7, 8, 9, 10, 11, 15, 17, 20, 41, 50, 51, 52, 53, 54, 55, 56, 57, 58, 60, 61, 62, 63) {
		holdNoValue(t, p, id)
	}
	for _, id := range append(noIds(), 1, 2, 3) {
		holdNoValue(t, pool(t, modelled("%1 = OpTypeBool")), id)
	}
}

// P11.2: Types are the module's types.
func TestTypes(t *testing.T) {
	for _, m := range []api.Module{modelled(), fronted(), many()} {
		x, _ := types.New(m)
		y := pool(t, m).Types()
		if y == nil || !slices.Equal(x.Ids(), y.Ids()) {
			t.Fatalf("Types: %v", y)
		}
		for _, id := range x.Ids() {
			a, _ := x.Text(id)
			if b, _ := y.Text(id); a != b {
				t.Errorf("the type %d: %s; not %s", id, b, a)
			}
		}
	}
}

// P11.2: numbers at the edges.
func TestNumbers(t *testing.T) {
	for line, want := range map[string]uint32{"0": 0, "1": 1, "4294967295": math.MaxUint32, "-1": math.MaxUint32, "2147483648": 1 << 31, "-2147483648": 1 << 31, "0xffff": 65535} {
		for typeId, name := range map[uint32]string{3: "%3", 4: "%4"} {
			p := pool(t, fronted("%30 = OpConstant "+name+" "+line))
			holdValue(t, p, 30, typeId, want)
		}
	}
}

// P11.2: values of as many words as there may be, of nulls and of composites.
func TestLargestValues(t *testing.T) {
	m := fronted(
		"%30 = OpConstant %3 256", "%31 = OpTypeArray %3 %30", "%32 = OpConstant %3 16", "%33 = OpTypeArray %31 %32", "%34 = OpConstant %3 4096", "%35 = OpTypeArray %3 %34",
		"%36 = OpConstantComposite %31"+repeat("%18", 255)+" %5", "%37 = OpUndef %31",
		"%38 = OpConstantComposite %33 %36"+repeat("%37", 14)+" %36", "%39 = OpConstantNull %33", "%40 = OpConstantComposite %35"+repeat("%34", 4096), "%41 = OpUndef %35",
		"%42 = OpTypePointer Private %35", "%50 = OpVariable %42 Private", "%51 = OpVariable %42 Private %40")
	p := pool(t, m)
	row := append(slices.Repeat([]uint32{7}, 255), 3)
	holdValue(t, p, 38, 33, slices.Concat(row, make([]uint32, 14*256), row)...)
	holdValue(t, p, 39, 33, make([]uint32, 4096)...)
	holdValue(t, p, 40, 35, slices.Repeat([]uint32{4096}, 4096)...)
	holdValue(t, p, 41, 35, make([]uint32, 4096)...)
	holdVariable(t, p, 50, 6, 35, make([]uint32, 4096)...)
	holdVariable(t, p, 51, 6, 35, slices.Repeat([]uint32{4096}, 4096)...)
	holdSaid(t, p, m)
}
