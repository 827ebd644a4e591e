package types

import (
	"slices"
	"strconv"
	"testing"

	"intaglio/api"
	"intaglio/ids"
)

// wide says whether a kind's values have parts.
func wide(kind uint8) bool {
	return kind == api.KindVector || kind == api.KindArray || kind == api.KindStruct
}

// holdLastPart says whether a type's size is the last part's offset and the size of that, and each offset that of the part ahead and its size.
func holdLastPart(t *testing.T, x *Table, id uint32) {
	t.Helper()
	if !wide(x.Kind(id)) {
		return
	}
	end := 0
	for k := range x.Count(id) {
		n, is := x.Offset(id, k)
		if n != end || !is {
			t.Fatalf("%d: the offset of %d is %d, %v; not %d", id, k, n, is, end)
		}
		p, _ := x.Part(id, k)
		end = n + x.Size(p)
	}
	if end != x.Size(id) || end < 1 || end > api.MaxSize {
		t.Fatalf("%d: the size %d, and %d at the end", id, x.Size(id), end)
	}
}

// holdEquivalence says whether Alike is one of the plain types, and whether what is alike has the same sizes and offsets.
func holdEquivalence(t *testing.T, x *Table) {
	t.Helper()
	l := x.Ids()
	for _, a := range l {
		if x.Alike(a, a) != x.Plain(a) {
			t.Fatalf("%d is alike to itself: %v", a, x.Alike(a, a))
		}
		for _, b := range l {
			if x.Alike(a, b) != x.Alike(b, a) {
				t.Fatalf("%d and %d are alike one way round", a, b)
			}
			if !x.Alike(a, b) {
				continue
			}
			holdSameOffsets(t, x, a, b)
			for _, c := range l {
				if x.Alike(b, c) && !x.Alike(a, c) {
					t.Fatalf("%d, %d and %d are not alike along", a, b, c)
				}
			}
		}
	}
}

// holdSameOffsets says whether two types have the same size and the same offsets.
func holdSameOffsets(t *testing.T, x *Table, a, b uint32) {
	t.Helper()
	if !x.Plain(a) || !x.Plain(b) || x.Size(a) != x.Size(b) || x.Count(a) != x.Count(b) {
		t.Fatalf("%d and %d are alike: the sizes %d, %d", a, b, x.Size(a), x.Size(b))
	}
	for k := range x.Count(a) {
		n, is := x.Offset(a, k)
		if n1, is1 := x.Offset(b, k); n1 != n || is1 != is {
			t.Fatalf("%d and %d are alike: the offsets %d, %d", a, b, n, n1)
		}
	}
}

// P10.6: modules at the edges.
func TestSizesFollow(t *testing.T) {
	for _, m := range []api.Module{modelled(), fronted(), many(), examples(), fronted("%6 = OpTypeStruct"+repeat("%2", 256), "%7 = OpConstant %3 16", "%8 = OpTypeArray %6 %7", "%9 = OpConstant %3 4096", "%10 = OpTypeArray %2 %9")} {
		x := table(t, m)
		for _, id := range x.Ids() {
			holdLastPart(t, x, id)
		}
		holdEquivalence(t, x)
	}
}

// P10.6: modules made by chance.
func TestSizesFollowByChance(t *testing.T) {
	d := dice(106)
	for range 400 {
		x := table(t, d.sound())
		for _, id := range x.Ids() {
			holdLastPart(t, x, id)
		}
		holdEquivalence(t, x)
	}
}

// grouped says whether a type is an array or a struct, or has such a part within.
func grouped(x *Table, id uint32) bool {
	if x.Kind(id) == api.KindArray || x.Kind(id) == api.KindStruct {
		return true
	}
	for k := range x.Count(id) {
		if p, _ := x.Part(id, k); grouped(x, p) {
			return true
		}
	}
	return false
}

// holdTexts says whether types of one text are the same but for their ids, and whether others have unlike ones.
func holdTexts(t *testing.T, x *Table) (equal int) {
	t.Helper()
	l := x.Ids()
	for _, a := range l {
		for _, b := range l {
			s, _ := x.Text(a)
			if r, _ := x.Text(b); r != s || a == b {
				continue
			}
			equal++
			if !grouped(x, a) || !grouped(x, b) {
				t.Fatalf("%d and %d have one text, %s", a, b, s)
			}
			if x.Kind(a) != x.Kind(b) || x.Count(a) != x.Count(b) || x.Size(a) != x.Size(b) {
				t.Fatalf("%d and %d have one text, %s, and are unlike", a, b, s)
			}
			for k := range x.Count(a) {
				p, _ := x.Part(a, k)
				q, _ := x.Part(b, k)
				s, _ := x.Text(p)
				if r, _ := x.Text(q); r != s {
					t.Fatalf("%d and %d have one text, and the parts %s and %s", a, b, s, r)
				}
			}
		}
	}
	return equal
}

// P10.7: equal texts, and unlike ones.
func TestTextsFollow(t *testing.T) {
	if n := holdTexts(t, table(t, many())); n != 6 {
		t.Errorf("%d pairs of types of one text", n)
	}
	if n := holdTexts(t, table(t, examples())); n != 0 {
		t.Errorf("%d pairs of types of one text", n)
	}
	// Pointers and functions of equal structs, and of equal arrays.
	m := fronted("%6 = OpTypeStruct %4", "%7 = OpTypeStruct %4", "%8 = OpTypeArray %6 %5", "%9 = OpTypeArray %7 %5", "%10 = OpTypePointer Input %8", "%11 = OpTypePointer Input %9", "%12 = OpTypeFunction %6 %10", "%13 = OpTypeFunction %7 %11", "%14 = OpTypeFunction %7 %10")
	if n := holdTexts(t, table(t, m)); n != 2+2+2+6 {
		t.Errorf("%d pairs of types of one text", n)
	}
}

// P10.7: texts of neighbours: a number of parts that runs into what stands behind it, a comma at another level.
func TestTextsApart(t *testing.T) {
	lines := []string{"%6 = OpConstant %3 1", "%7 = OpConstant %3 11", "%8 = OpConstant %3 111", "%9 = OpConstant %3 2", "%10 = OpConstant %3 4", "%11 = OpTypeStruct %3", "%12 = OpTypeStruct %3 %3"}
	id := 20
	add := func(line string) {
		lines = append(lines, "%"+strconv.Itoa(id)+" = "+line)
		id++
	}
	for _, n := range []string{"%6", "%7", "%8", "%9", "%10"} {
		for _, p := range []string{"%2", "%3", "%4"} {
			add("OpTypeArray " + p + " " + n)
		}
	}
	for _, l := range []string{"%2", "%2 %2", "%2 %2 %2", "%11", "%12", "%11 %2", "%2 %11", "%12 %2", "%2 %12", "%11 %11", "%2 %2 %11", "%11 %2 %2"} {
		add("OpTypeStruct " + l)
	}
	for _, n := range []string{"2", "4"} {
		for _, p := range []string{"%2", "%3", "%4"} {
			add("OpTypeVector " + p + " " + n)
		}
	}
	for _, l := range []string{"%2", "%2 %2", "%2 %2 %2", "%11", "%12", "%11 %2", "%2 %11", "%12 %2", "%2 %12", "%11 %11", "%2 %2 %11", "%11 %2 %2", "%1", "%1 %2", "%1 %11"} {
		add("OpTypeFunction " + l)
	}
	if n := holdTexts(t, table(t, fronted(lines...))); n != 0 {
		t.Errorf("%d pairs of types of one text", n)
	}
}

// texts are the texts of all types, in order.
func texts(x *Table) []string {
	var l []string
	for _, id := range x.Ids() {
		s, _ := x.Text(id)
		l = append(l, s)
	}
	return l
}

// holdRenamed says whether a renaming of a module has the same types, but for the ids.
func holdRenamed(t *testing.T, m api.Module, to []uint32) {
	t.Helper()
	n, s := ids.Rename(m, to)
	if s.Err != api.OK {
		t.Fatal(s)
	}
	x, y := table(t, m), table(t, n)
	if !slices.Equal(texts(x), texts(y)) {
		t.Fatalf("the texts of a renaming: %v; not %v", texts(y), texts(x))
	}
	l := x.Ids()
	for k, id := range l {
		l[k] = to[id]
	}
	if !slices.Equal(y.Ids(), l) {
		t.Fatalf("the ids of a renaming: %v; not %v", y.Ids(), l)
	}
	holdSaid(t, y, n)
}

// P10.7: texts hang on no ids.
func TestRenamed(t *testing.T) {
	d := dice(107)
	for _, m := range []api.Module{modelled(), fronted(), many(), examples()} {
		for range 10 {
			holdRenamed(t, m, d.renaming(m.Bound))
		}
	}
	for range 200 {
		m := d.sound()
		holdRenamed(t, m, d.renaming(m.Bound))
	}
}

// P10.1: a fault of a module is that of its renamings, too.
func TestRenamedFaults(t *testing.T) {
	d := dice(108)
	for range 500 {
		m := d.spoiled(d.sound())
		n, _ := ids.Rename(m, d.renaming(m.Bound))
		_, a := New(m)
		if _, b := New(n); a != b {
			t.Fatalf("%v, and of a renaming %v: %v", a, b, m)
		}
	}
}

// P10.7: texts of modules made by chance.
func TestTextsFollowByChance(t *testing.T) {
	d := dice(109)
	equal := 0
	for range 400 {
		equal += holdTexts(t, table(t, d.sound()))
	}
	if equal < 200 {
		t.Errorf("%d pairs of types of one text", equal)
	}
}
