package value

import (
	"math"
	"slices"
	"strings"
	"sync"
	"testing"

	"intaglio/api"
)

// R4: of no table there is nothing: ErrNil ahead of all else, whatever else is handed in.
func TestNil(t *testing.T) {
	for _, ty := range append(otherIds(), aBool, anInt, aStruct) {
		for _, w := range [][]uint32{nil, row(), row(0), row(2), row(1, 2, 3)} {
			if l, e := Zero(nil, ty); len(l) != 0 || e != api.ErrNil {
				t.Errorf("Zero: %v, %d", l, e)
			}
			if Fits(nil, ty, w) {
				t.Errorf("Fits of %v", w)
			}
			for _, path := range [][]uint32{nil, row(0), row(9, 9)} {
				holdGet(t, nil, ty, w, path, 0, nil, api.ErrNil)
				holdPut(t, nil, ty, w, path, w, nil, api.ErrNil)
			}
			holdText(t, nil, ty, w, "", api.ErrNil)
		}
		for _, s := range []string{"", "true", "1", " x"} {
			if l, spot := Parse(nil, ty, s); len(l) != 0 || spot != (api.Spot{Err: api.ErrNil}) {
				t.Errorf("Parse of %q: %v, %v", s, l, spot)
			}
		}
		seq := Leaves(nil, ty)
		if seq == nil {
			t.Fatal("no iterator")
		}
		for n, leaf := range seq {
			t.Errorf("Leaves: %d, %d", n, leaf)
		}
	}
}

// R2: of several errors the first one: no type, no value, no place, no part.
func TestFirstError(t *testing.T) {
	x := table(t)
	for _, ty := range otherIds() {
		for _, w := range [][]uint32{nil, row(0), row(2), row(1, 2, 3)} {
			for _, path := range [][]uint32{nil, row(0), row(9, 9)} {
				holdGet(t, x, ty, w, path, 0, nil, api.ErrNoType)
				holdPut(t, x, ty, w, path, w, nil, api.ErrNoType)
			}
			holdText(t, x, ty, w, "", api.ErrNoType)
		}
	}
	value, none := row(1, 7, 8), row(2, 7, 8)
	there, nowhere := row(1), row(2)
	fits, misfit := row(5, 6), row(5)
	for _, c := range []struct {
		w, path, part []uint32
		get, put      api.Errno
	}{
		{value, there, fits, api.OK, api.OK}, {value, there, misfit, api.OK, api.ErrArg}, {value, nowhere, fits, api.ErrPlace, api.ErrPlace}, {value, nowhere, misfit, api.ErrPlace, api.ErrPlace},
		{none, there, fits, api.ErrArg, api.ErrArg}, {none, there, misfit, api.ErrArg, api.ErrArg}, {none, nowhere, fits, api.ErrArg, api.ErrArg}, {none, nowhere, misfit, api.ErrArg, api.ErrArg},
	} {
		if ty, l, e := Get(x, aStruct, c.w, c.path); e != c.get || e != api.OK && (ty != 0 || len(l) != 0) {
			t.Errorf("Get of %v by %v: %d, %v, %d", c.w, c.path, ty, l, e)
		}
		if l, e := Put(x, aStruct, c.w, c.path, c.part); e != c.put || e != api.OK && len(l) != 0 {
			t.Errorf("Put of %v by %v, %v: %v, %d", c.w, c.path, c.part, l, e)
		}
	}
}

// R1: every call ends, and none panics, of every id of every table, whatever the words, the path and the text.
func TestWhatever(t *testing.T) {
	d := dice(122)
	x := table(t)
	for range 30000 {
		ty := oneOf(&d, uint32(d.below(70)), uint32(d.below(70)), d.word())
		words := func() []uint32 {
			w := make([]uint32, d.below(6))
			for k := range w {
				w[k] = d.word()
			}
			return w
		}
		w, path, part := words(), words(), words()
		s := d.spoiledText(strings.Repeat(oneOf(&d, "{", "true,", "1, ", "{{1}", " "), d.below(4)))
		_, zeroErr := Zero(x, ty)
		if _, _, e := Get(x, ty, w, path); (e == api.ErrNoType) != (zeroErr != api.OK) {
			t.Fatalf("Get of %d: %d", ty, e)
		}
		if _, e := Put(x, ty, w, path, part); (e == api.ErrNoType) != (zeroErr != api.OK) {
			t.Fatalf("Put of %d: %d", ty, e)
		}
		if _, e := Text(x, ty, w); (e == api.OK) != Fits(x, ty, w) {
			t.Fatalf("Text of %d, %v: %d", ty, w, e)
		}
		if l, spot := Parse(x, ty, s); spot.Err == api.OK && !Fits(x, ty, l) || spot.At < 0 || spot.At > len(s) {
			t.Fatalf("Parse of %d, %q: %v, %v", ty, s, l, spot)
		}
	}
}

// R1: a path of very many numbers leads nowhere, and is told as fast as a short one; so is a type of as many words, and as deep, as there may be.
func TestLargest(t *testing.T) {
	lines := []string{"%1 = OpTypeBool", "%2 = OpTypeInt 32 1", "%3 = OpTypeStruct %1 %2"}
	for id := uint32(4); id < 15; id++ {
		lines = append(lines, named(id)+" = OpTypeStruct "+named(id-1)+" "+named(id-1))
	}
	lines = append(lines, "%15 = OpTypeStruct %14", "%16 = OpTypeStruct %15", "%17 = OpTypeStruct %16")
	x := tableOf(t, lines...)
	if x.Size(17) != 4096 {
		t.Fatalf("the size %d", x.Size(17))
	}
	w := counted(x, 17)
	holdThereAndBack(t, x, 17, w)
	path := append(row(0, 0, 0), slices.Repeat(row(1), 12)...)
	holdGet(t, x, 17, w, path, 2, row(4096), api.OK)
	whole := slices.Clone(w)
	whole[4095] = 7
	holdPut(t, x, 17, w, path, row(7), whole, api.OK)
	if l := told(x, 17); !slices.Equal(l, slices.Repeat(row(1, 2), 2048)) {
		t.Errorf("%d leaves", len(l))
	}
	long := make([]uint32, 1<<22)
	for range 1000 {
		holdGet(t, x, 1, row(1), long, 0, nil, api.ErrPlace)
		holdGet(t, x, 3, row(1, 2), long, 0, nil, api.ErrPlace)
		holdPut(t, x, 3, row(1, 2), long, row(0), nil, api.ErrPlace)
	}
	holdGet(t, x, 17, w, long, 0, nil, api.ErrPlace)
	if Fits(x, 1, long) {
		t.Error("very many words fit")
	}
}

// withRoom is a copy of words, with room behind their end that says 77.
func withRoom(w []uint32) []uint32 {
	l := append(slices.Clone(w), 77, 77, 77)
	return l[:len(w):len(l)]
}

// untouched says whether such a copy is as it was, and the room behind its end.
func untouched(l, w []uint32) bool {
	return slices.Equal(l, w) && slices.Equal(l[len(w):len(w)+3], row(77, 77, 77))
}

// overwrite writes over words, and over the room behind their end.
func overwrite(w []uint32) {
	w = w[:cap(w)]
	for k := range w {
		w[k] = 99
	}
}

// R3: what is handed in is not changed, the room behind a list's end neither; what is answered is new memory.
func TestMemory(t *testing.T) {
	x := table(t)
	for _, ty := range plainIds() {
		value := counted(x, ty)
		for _, way := range append(allPaths(x, ty), row(9), row(0, 9)) {
			wantType, want, wantErr := saidGet(x, ty, value, way)
			w, path, part := withRoom(value), withRoom(way), withRoom(make([]uint32, len(want)))
			whole, _ := saidPut(x, ty, value, way, part)
			for range 2 {
				gotType, got, e := Get(x, ty, w, path)
				put, f := Put(x, ty, w, path, part)
				if gotType != wantType || !slices.Equal(got, want) || !slices.Equal(put, whole) || e != wantErr || f != wantErr {
					t.Fatalf("of %d by %v: %d, %v, %d; %v, %d", ty, way, gotType, got, e, put, f)
				}
				overwrite(got)
				if !slices.Equal(put, whole) {
					t.Fatal("two answers share memory")
				}
				overwrite(put)
				if !untouched(w, value) || !untouched(path, way) || !untouched(part, make([]uint32, len(want))) {
					t.Fatalf("of %d by %v: what was handed in is changed", ty, way)
				}
			}
			// What is handed in is not kept.
			gotType, got, _ := Get(x, ty, w, path)
			put, _ := Put(x, ty, w, path, part)
			overwrite(w)
			overwrite(path)
			overwrite(part)
			if gotType != wantType || !slices.Equal(got, want) || !slices.Equal(put, whole) {
				t.Fatalf("of %d by %v: what was handed in is kept", ty, way)
			}
		}
	}
}

// R3: the same of the other calls.
func TestMemoryOfOthers(t *testing.T) {
	x := table(t)
	for _, ty := range append(plainIds(), aBits) {
		value := counted(x, ty)
		w := withRoom(value)
		text, _ := Text(x, ty, w)
		if !Fits(x, ty, w) || !untouched(w, value) {
			t.Fatalf("the words of %d are changed", ty)
		}
		overwrite(w)
		for range 2 {
			zero, _ := Zero(x, ty)
			if slices.ContainsFunc(zero, func(n uint32) bool { return n != 0 }) {
				t.Fatalf("Zero of %d: %v", ty, zero)
			}
			overwrite(zero)
			read, spot := Parse(x, ty, text)
			if !slices.Equal(read, value) || spot.Err != api.OK {
				t.Fatalf("Parse of %d: %v, %v", ty, read, spot)
			}
			overwrite(read)
		}
	}
}

// R3: lists that are handed in may be one and the same.
func TestSharedLists(t *testing.T) {
	x := table(t)
	w := row(1, 0, 1)
	holdGet(t, x, aStruct, w, w[:1], aPair, row(0, 1), api.OK)
	holdPut(t, x, aStruct, w, w[:2], w[2:], row(1, 1, 1), api.OK)
	holdPut(t, x, aStruct, w, w[:1], w[:2], row(1, 1, 0), api.OK)
	holdPut(t, x, aStruct, w, nil, w, row(1, 0, 1), api.OK)
	if !slices.Equal(w, row(1, 0, 1)) {
		t.Errorf("the words are %v", w)
	}
}

// R6: Leaves may be left early, and gone through again, also while it is gone through.
func TestLeavesLeft(t *testing.T) {
	x := table(t)
	for _, ty := range plainIds() {
		want := told(x, ty)
		seq := Leaves(x, ty)
		for stop := range len(want) {
			var got []uint32
			for n, leaf := range seq {
				got = append(got, leaf)
				if n == stop {
					break
				}
			}
			if !slices.Equal(got, want[:stop+1]) {
				t.Fatalf("Leaves of %d, left at %d: %v", ty, stop, got)
			}
			got = nil
			for range seq {
				for n, leaf := range seq {
					got = append(got, leaf)
					if n == stop {
						break
					}
				}
			}
			if !slices.Equal(got, slices.Repeat(want[:stop+1], len(want))) {
				t.Fatalf("Leaves of %d within itself: %v", ty, got)
			}
		}
	}
}

// R5: a table may be asked by several goroutines at one time, and so may one iterator.
func TestAtOneTime(t *testing.T) {
	x := table(t)
	seq := Leaves(x, aMix)
	leaves := told(x, aMix)
	w := counted(x, aMix)
	text, _ := Text(x, aMix, w)
	var wait sync.WaitGroup
	for range 8 {
		wait.Go(func() {
			for range 50 {
				for n, leaf := range seq {
					if leaves[n] != leaf {
						t.Errorf("Leaves: %d, %d", n, leaf)
					}
				}
				holdParse(t, x, aMix, text, w...)
				holdText(t, x, aMix, w, text, api.OK)
				holdGet(t, x, aMix, w, row(1, 2), aStruct, w[7:10], api.OK)
				holdPut(t, x, aMix, w, row(0), row(math.MaxUint32), append(row(math.MaxUint32), w[1:]...), api.OK)
			}
		})
	}
	wait.Wait()
}

// R5: ids alone do not matter: types of the same parts have the same values, parts and texts.
func TestOtherIds(t *testing.T) {
	x := table(t)
	y := tableOf(t, "%9 = OpTypeInt 32 1", "%3 = OpTypeVector %9 2", "%30 = OpTypeBool", "%2 = OpTypeStruct %30 %3")
	for _, s := range []string{"{true, {-1, 5}}", "{false,{0,0}", "{1"} {
		a, spot := Parse(x, aStruct, s)
		if b, other := Parse(y, 2, s); !slices.Equal(a, b) || spot != other {
			t.Errorf("Parse of %q: %v, %v; %v, %v", s, a, spot, b, other)
		}
	}
	holdGet(t, y, 2, row(1, 7, 8), row(1), 3, row(7, 8), api.OK)
	if l := told(y, 2); !slices.Equal(l, row(30, 9, 9)) {
		t.Errorf("Leaves: %v", l)
	}
}

// R4: a table that has no types.
func TestNoTypes(t *testing.T) {
	x := tableOf(t)
	for _, ty := range append(otherIds(), plainIds()...) {
		if l, e := Zero(x, ty); len(l) != 0 || e != api.ErrNoType {
			t.Errorf("Zero of %d: %v, %d", ty, l, e)
		}
		if Fits(x, ty, nil) || len(told(x, ty)) != 0 {
			t.Errorf("%d is a type", ty)
		}
	}
}
