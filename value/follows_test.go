package value

import (
	"slices"
	"testing"

	"intaglio/api"
	"intaglio/types"
)

// allPaths are all paths from a plain type that lead somewhere.
func allPaths(x *types.Table, ty uint32) [][]uint32 {
	l := [][]uint32{nil}
	for k := range x.Count(ty) {
		part, _ := x.Part(ty, k)
		for _, path := range allPaths(x, part) {
			l = append(l, append(row(uint32(k)), path...))
		}
	}
	return l
}

// begins says whether a path is a beginning of another one.
func begins(a, b []uint32) bool { return len(a) <= len(b) && slices.Equal(a, b[:len(a)]) }

// holdSaidParts says whether Get and Put answer of a path what the chapter says.
func holdSaidParts(t *testing.T, x *types.Table, ty uint32, w, path []uint32) {
	t.Helper()
	wantType, want, e := saidGet(x, ty, w, path)
	holdGet(t, x, ty, w, path, wantType, want, e)
	for _, part := range [][]uint32{want, make([]uint32, len(want)), slices.Repeat(row(2), len(want)), append(slices.Clone(want), 0), nil} {
		whole, e := saidPut(x, ty, w, path, part)
		holdPut(t, x, ty, w, path, part, whole, e)
	}
}

// holdSaidParse says whether Parse answers of a text what the chapter says, and whether Text of what it reads is read as the same.
func holdSaidParse(t *testing.T, x *types.Table, ty uint32, s string) bool {
	t.Helper()
	want, spot := saidParse(x, ty, s)
	w, got := Parse(x, ty, s)
	if !slices.Equal(w, want) || got != spot {
		t.Errorf("Parse of %d, %q: %v, %v; not %v, %v", ty, s, w, got, want, spot)
		return false
	}
	if spot.Err == api.OK {
		again, e := Text(x, ty, w)
		if e != api.OK {
			t.Errorf("Text of %d, %v: %d", ty, w, e)
		}
		holdParse(t, x, ty, again, want...)
	}
	return spot.Err == api.OK
}

// holdThereAndBack says whether Parse of Text is the words.
func holdThereAndBack(t *testing.T, x *types.Table, ty uint32, w []uint32) {
	t.Helper()
	s, e := Text(x, ty, w)
	if e != api.OK {
		t.Errorf("Text of %d, %v: %d", ty, w, e)
	}
	holdParse(t, x, ty, s, w...)
}

// P12.5: Parse of Text is the words.
func TestThereAndBack(t *testing.T) {
	x := table(t)
	for _, ty := range append(plainIds(), aBits, aHeap) {
		zero, _ := Zero(x, ty)
		holdThereAndBack(t, x, ty, zero)
		holdThereAndBack(t, x, ty, counted(x, ty))
	}
	for _, word := range row(0, 1, 9, 10, 1<<31-1, 1<<31, 1<<31+1, 1<<32-1) {
		holdThereAndBack(t, x, anInt, row(word))
		holdThereAndBack(t, x, anUint, row(word))
		holdThereAndBack(t, x, aStruct, row(1, word, word))
	}
}

// P12.5: what Zero, Get and Put answer are values.
func TestAnswersAreValues(t *testing.T) {
	x := table(t)
	for _, ty := range plainIds() {
		zero, _ := Zero(x, ty)
		if !Fits(x, ty, zero) {
			t.Errorf("Zero of %d is no value", ty)
		}
		w := counted(x, ty)
		for _, path := range allPaths(x, ty) {
			partType, part, _ := Get(x, ty, w, path)
			if !Fits(x, partType, part) {
				t.Errorf("Get of %d by %v: %v is no value of %d", ty, path, part, partType)
			}
			none, _ := Zero(x, partType)
			if whole, e := Put(x, ty, w, path, none); e != api.OK || !Fits(x, ty, whole) {
				t.Errorf("Put of %d by %v: %v, %d", ty, path, whole, e)
			}
		}
	}
}

// holdPaths says whether what was put by a path is got by it, and by another one what the two have in common.
func holdPaths(t *testing.T, x *types.Table, ty uint32, w, path, part, other []uint32) {
	t.Helper()
	_, before, _ := Get(x, ty, w, path)
	holdPut(t, x, ty, w, path, before, w, api.OK)
	whole, e := Put(x, ty, w, path, part)
	_, got, f := Get(x, ty, whole, path)
	if e != api.OK || f != api.OK || !slices.Equal(got, part) {
		t.Errorf("Get of Put of %d by %v: %v, %d, %d; not %v", ty, path, got, e, f, part)
	}
	if !begins(path, other) && !begins(other, path) {
		otherType, ahead, _ := Get(x, ty, w, other)
		holdGet(t, x, ty, whole, other, otherType, ahead, api.OK)
	}
}

// P12.6: Get of Put, Put of Get, and Get by another path ahead of Put and behind it.
func TestGetAndPut(t *testing.T) {
	x := table(t)
	for _, ty := range plainIds() {
		w := counted(x, ty)
		paths := allPaths(x, ty)
		for _, path := range paths {
			_, part, _ := Get(x, ty, w, path)
			part = slices.Clone(part)
			for k := range part {
				part[k] = 1 - min(part[k], 1)
			}
			for _, other := range paths {
				holdPaths(t, x, ty, w, path, part, other)
			}
		}
	}
}

// P12.6: Get by a path and then by another one is Get by both.
func TestGetOfGet(t *testing.T) {
	x := table(t)
	for _, ty := range plainIds() {
		w := counted(x, ty)
		for _, path := range allPaths(x, ty) {
			for k := range len(path) + 1 {
				midType, mid, _ := Get(x, ty, w, path[:k])
				wantType, want, _ := Get(x, midType, mid, path[k:])
				holdGet(t, x, ty, w, path, wantType, want, api.OK)
				if _, _, e := Get(x, midType, mid, append(slices.Clone(path[k:]), 9)); e != api.ErrPlace {
					t.Errorf("Get by %v, then by %v and 9: %d", path[:k], path[k:], e)
				}
			}
		}
	}
}

// P12.1 to P12.6: types, values, paths and texts made by chance, held against the chapter's words.
func TestByChance(t *testing.T) {
	d := dice(121)
	count := map[string]int{}
	tally := func(what string, is bool) {
		if is {
			count[what]++
		} else {
			count["no "+what]++
		}
	}
	for range 60 {
		x, made := d.types(t)
		for range 150 {
			ty := oneOf(&d, made...)
			w := d.value(x, ty)
			n, _ := grown(x, ty, w)
			holdText(t, x, ty, w, n.text(x), api.OK)
			holdThereAndBack(t, x, ty, w)
			bad := d.spoiled(w)
			if Fits(x, ty, bad) != saidFits(x, ty, bad) || !Fits(x, ty, w) {
				t.Errorf("Fits of %d, %v, %v", ty, w, bad)
			}
			tally("fits", saidFits(x, ty, bad))
			path := d.anyPath(x, ty)
			holdSaidParts(t, x, ty, w, path)
			holdSaidParts(t, x, ty, bad, path)
			_, _, e := Get(x, ty, w, path)
			tally("path", e == api.OK)
			path = d.path(x, ty)
			p := n.at(path)
			holdPaths(t, x, ty, w, path, d.value(x, p.typeId), d.path(x, ty))
			s := d.text(x, ty, w)
			holdParse(t, x, ty, s, w...)
			tally("text", holdSaidParse(t, x, ty, d.spoiledText(s)))
		}
	}
	for _, what := range []string{"fits", "no fits", "path", "no path", "text", "no text"} {
		if count[what] < 500 {
			t.Errorf("%d of %s", count[what], what)
		}
	}
}
