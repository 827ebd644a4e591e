package value

import (
	"math"
	"slices"
	"strconv"
	"strings"
	"testing"

	"intaglio/api"
	"intaglio/asm"
	"intaglio/types"
)

// The types that most tests here ask of. The ids 1 to 6 are those of the chapter's examples.
const (
	aVoid    = 1
	aBool    = 2
	anUint   = 3
	anInt    = 4
	aPair    = 5  // vec2(int)
	aStruct  = 6  // struct(bool,vec2(int))
	anArray  = 8  // array3(struct(bool,vec2(int)))
	aTruths  = 9  // vec4(bool)
	aTriple  = 10 // vec3(uint)
	aMix     = 11 // struct(uint,array3(struct(bool,vec2(int))),vec4(bool),int,bool)
	aBox     = 12 // struct(bool)
	aBoxed   = 13 // struct(struct(bool))
	anOne    = 15 // array1(int)
	aGrid    = 16 // array3(array3(vec3(uint)))
	aBits    = 19 // array4096(bool)
	aHeap    = 20 // array1(array4096(bool))
	aDeep    = 43 // a truth in fifteen structs
	aMade    = 22 // a pointer
	aFn      = 23 // a function's type
	aText    = 50 // an OpString
	aNumber  = 7  // a constant
	aPlace   = 24 // a variable
	aLabel   = 62
	aProgram = 61
)

// lines are the types above, and other things that have ids.
func lines() []string {
	l := []string{
		`%50 = OpString "a"`,
		"%1 = OpTypeVoid", "%2 = OpTypeBool", "%3 = OpTypeInt 32 0", "%4 = OpTypeInt 32 1",
		"%5 = OpTypeVector %4 2", "%6 = OpTypeStruct %2 %5",
		"%7 = OpConstant %3 3", "%8 = OpTypeArray %6 %7", "%9 = OpTypeVector %2 4", "%10 = OpTypeVector %3 3",
		"%11 = OpTypeStruct %3 %8 %9 %4 %2", "%12 = OpTypeStruct %2", "%13 = OpTypeStruct %12",
		"%14 = OpConstant %4 1", "%15 = OpTypeArray %4 %14", "%17 = OpTypeArray %10 %7", "%16 = OpTypeArray %17 %7",
		"%18 = OpConstant %3 4096", "%19 = OpTypeArray %2 %18", "%20 = OpTypeArray %19 %14",
		"%22 = OpTypePointer Private %6", "%23 = OpTypeFunction %1", "%24 = OpVariable %22 Private",
	}
	what := "%2"
	for id := 29; id <= 43; id++ {
		it := "%" + strconv.Itoa(id)
		l = append(l, it+" = OpTypeStruct "+what)
		what = it
	}
	return append(l, "%61 = OpFunction %1 None %23", "%62 = OpLabel", "OpReturn", "OpFunctionEnd")
}

// plainIds are the ids of the plain types of the lines above, but for the very large ones.
func plainIds() []uint32 {
	return []uint32{aBool, anUint, anInt, aPair, aStruct, anArray, aTruths, aTriple, aMix, aBox, aBoxed, anOne, aGrid, aDeep}
}

// otherIds are ids of which there is no plain type.
func otherIds() []uint32 {
	return []uint32{0, aVoid, aMade, aFn, aText, aNumber, aPlace, aLabel, aProgram, 98, 99, 100, api.MaxBound, math.MaxInt32, 1 << 31, math.MaxUint32}
}

// tableOf is the types of a module of an OpMemoryModel and of lines behind it.
func tableOf(t testing.TB, l ...string) *types.Table {
	t.Helper()
	m, s := asm.Parse("module 0 99\nOpMemoryModel Logical Simple\n" + strings.Join(l, "\n"))
	if s.Err != api.OK {
		t.Fatalf("no module: %v", s)
	}
	x, s := types.New(m)
	if s.Err != api.OK {
		t.Fatalf("no types: %v", s)
	}
	return x
}

// table is the types of the lines above.
func table(t testing.TB) *types.Table {
	t.Helper()
	return tableOf(t, lines()...)
}

// row is words.
func row(l ...uint32) []uint32 { return l }

// minus is the word of a number below 0.
func minus(n uint32) uint32 { return -n }

// counted is a value of a type: 1 at each truth, rising numbers from 1 on elsewhere.
func counted(x *types.Table, ty uint32) []uint32 {
	var w []uint32
	for n, leaf := range saidLeaves(x, ty) {
		if x.Kind(leaf) == api.KindBool {
			w = append(w, 1)
		} else {
			w = append(w, uint32(n)+1)
		}
	}
	return w
}

// told is what Leaves tells.
func told(x *types.Table, ty uint32) []uint32 {
	var l []uint32
	n := 0
	for k, leaf := range Leaves(x, ty) {
		if k != n {
			return nil
		}
		l = append(l, leaf)
		n++
	}
	return l
}

// holdGet says whether Get answers a part, or an error.
func holdGet(t *testing.T, x *types.Table, ty uint32, w, path []uint32, wantType uint32, want []uint32, wantErr api.Errno) {
	t.Helper()
	got, l, e := Get(x, ty, w, path)
	if got != wantType || !slices.Equal(l, want) || e != wantErr {
		t.Errorf("Get of %d, %v by %v: %d, %v, %d; not %d, %v, %d", ty, w, path, got, l, e, wantType, want, wantErr)
	}
}

// holdPut says whether Put answers a value, or an error.
func holdPut(t *testing.T, x *types.Table, ty uint32, w, path, part, want []uint32, wantErr api.Errno) {
	t.Helper()
	l, e := Put(x, ty, w, path, part)
	if !slices.Equal(l, want) || e != wantErr {
		t.Errorf("Put of %d, %v by %v, %v: %v, %d; not %v, %d", ty, w, path, part, l, e, want, wantErr)
	}
}

// holdText says whether Text answers a text, or an error.
func holdText(t *testing.T, x *types.Table, ty uint32, w []uint32, want string, wantErr api.Errno) {
	t.Helper()
	s, e := Text(x, ty, w)
	if s != want || e != wantErr {
		t.Errorf("Text of %d, %v: %q, %d; not %q, %d", ty, w, s, e, want, wantErr)
	}
}

// holdParse says whether Parse answers words.
func holdParse(t *testing.T, x *types.Table, ty uint32, s string, want ...uint32) {
	t.Helper()
	w, spot := Parse(x, ty, s)
	if !slices.Equal(w, want) || spot != (api.Spot{}) {
		t.Errorf("Parse of %d, %q: %v, %v; not %v", ty, s, w, spot, want)
	}
}

// holdNoForm says whether Parse answers ErrForm at a place, and no words.
func holdNoForm(t *testing.T, x *types.Table, ty uint32, s string, at int) {
	t.Helper()
	w, spot := Parse(x, ty, s)
	if len(w) != 0 || spot != (api.Spot{Err: api.ErrForm, At: at}) {
		t.Errorf("Parse of %d, %q: %v, %v; not ErrForm at %d", ty, s, w, spot, at)
	}
}
