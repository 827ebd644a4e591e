package types

import (
	"slices"
	"strconv"
	"strings"
	"testing"

	"intaglio/api"
	"intaglio/grammar"
)

// What the chapter says, said once more: each answer is looked up in the module's instructions anew, part by part.

// saidPlace is the place at which an id is made; -1, if it is not.
func saidPlace(m api.Module, id uint32) int {
	return slices.IndexFunc(m.Insts, func(i api.Inst) bool { return id != 0 && i.Result == id })
}

// saidMaker is the name of the operation that makes an id, and its instruction.
func saidMaker(m api.Module, id uint32) (string, api.Inst) {
	at := saidPlace(m, id)
	if at < 0 {
		return "", api.Inst{}
	}
	f, _ := grammar.Of(m.Insts[at].Op)
	return f.Name, m.Insts[at]
}

// saidKind is an id's kind.
func saidKind(m api.Module, id uint32) uint8 {
	name, _ := saidMaker(m, id)
	names := []string{"", "OpTypeVoid", "OpTypeBool", "OpTypeInt", "OpTypeVector", "OpTypeArray", "OpTypeStruct", "OpTypePointer", "OpTypeFunction"}
	return uint8(max(0, slices.Index(names, name)))
}

// saidParts are the ids of all parts, of whatever type.
func saidParts(m api.Module, id uint32) []uint32 {
	_, i := saidMaker(m, id)
	var l []uint32
	switch saidKind(m, id) {
	case api.KindVector:
		l = slices.Repeat([]uint32{i.Args[0].N}, int(i.Args[1].N))
	case api.KindArray:
		_, c := saidMaker(m, i.Args[1].N)
		l = slices.Repeat([]uint32{i.Args[0].N}, int(c.Args[0].N))
	case api.KindPointer:
		l = []uint32{i.Args[1].N}
	case api.KindStruct, api.KindFunction:
		for _, a := range i.Args {
			l = append(l, a.N)
		}
	}
	return l
}

// saidPlain says whether a type is plain.
func saidPlain(m api.Module, id uint32) bool {
	k := saidKind(m, id)
	return k >= api.KindBool && k <= api.KindStruct
}

// runs are a list's values, each with how often it stands there one behind the other.
func runs(l []uint32) (values []uint32, times []int) {
	for _, n := range l {
		if last := len(values) - 1; last >= 0 && values[last] == n {
			times[last]++
			continue
		}
		values, times = append(values, n), append(times, 1)
	}
	return values, times
}

// saidSize is the size of a plain type; 0 of others.
func saidSize(m api.Module, id uint32) int {
	if !saidPlain(m, id) {
		return 0
	}
	if saidKind(m, id) <= api.KindInt {
		return 1
	}
	n := 0
	values, times := runs(saidParts(m, id))
	for k, p := range values {
		n += times[k] * saidSize(m, p)
	}
	return n
}

// saidDepth is the depth of a plain type.
func saidDepth(m api.Module, id uint32) int {
	deepest := 0
	values, _ := runs(saidParts(m, id))
	for _, p := range values {
		deepest = max(deepest, saidDepth(m, p))
	}
	return 1 + deepest
}

// saidAlike says whether two types are alike.
func saidAlike(m api.Module, a, b uint32) bool {
	if !saidPlain(m, a) || !saidPlain(m, b) || saidKind(m, a) != saidKind(m, b) {
		return false
	}
	if saidKind(m, a) <= api.KindInt {
		return true
	}
	x, y := saidParts(m, a), saidParts(m, b)
	if len(x) != len(y) {
		return false
	}
	for k := range x {
		if k > 0 && x[k] == x[k-1] && y[k] == y[k-1] {
			continue
		}
		if !saidAlike(m, x[k], y[k]) {
			return false
		}
	}
	return true
}

// saidText is a type's text.
func saidText(m api.Module, id uint32) string {
	_, i := saidMaker(m, id)
	l := saidParts(m, id)
	switch saidKind(m, id) {
	case api.KindVoid:
		return "void"
	case api.KindBool:
		return "bool"
	case api.KindInt:
		return []string{"uint", "int"}[i.Args[1].N]
	case api.KindVector:
		return "vec" + strconv.Itoa(len(l)) + "(" + saidText(m, l[0]) + ")"
	case api.KindArray:
		return "array" + strconv.Itoa(len(l)) + "(" + saidText(m, l[0]) + ")"
	case api.KindPointer:
		return map[uint32]string{1: "Input", 3: "Output", 6: "Private", 7: "Function"}[i.Args[0].N] + "(" + saidText(m, l[0]) + ")"
	case api.KindStruct:
		return "struct(" + saidTexts(m, l) + ")"
	case api.KindFunction:
		return "fn(" + saidTexts(m, l) + ")"
	}
	return ""
}

// saidTexts are the texts of types, a comma between each two.
func saidTexts(m api.Module, l []uint32) string {
	var texts []string
	for _, p := range l {
		texts = append(texts, saidText(m, p))
	}
	return strings.Join(texts, ",")
}

// saidError is the first rule that does not hold of the instruction at a place, the module's ids being sound, and its types ahead of it.
func saidError(m api.Module, at int) api.Errno {
	i := m.Insts[at]
	kind := saidKind(m, i.Result)
	var args []uint32
	for _, a := range i.Args {
		args = append(args, a.N)
	}
	plain := func(id uint32) bool { return saidPlain(m, id) }
	switch kind {
	case api.KindInt:
		if args[0] != 32 || args[1] != 0 && args[1] != 1 {
			return api.ErrSize
		}
	case api.KindVector:
		if k := saidKind(m, args[0]); k != api.KindBool && k != api.KindInt {
			return api.ErrNoType
		}
		if args[1] != 2 && args[1] != 3 && args[1] != 4 {
			return api.ErrSize
		}
	case api.KindArray:
		if !plain(args[0]) {
			return api.ErrNoType
		}
		name, c := saidMaker(m, args[1])
		if name != "OpConstant" || saidKind(m, c.Type) != api.KindInt || c.Args[0].N == 0 || c.Args[0].N > 4096 {
			return api.ErrSize
		}
	case api.KindStruct:
		if len(args) == 0 || len(args) > 256 {
			return api.ErrSize
		}
		if slices.ContainsFunc(args, func(id uint32) bool { return !plain(id) }) {
			return api.ErrNoType
		}
	case api.KindPointer:
		if !plain(args[1]) {
			return api.ErrNoType
		}
	case api.KindFunction:
		if k := saidKind(m, args[0]); !plain(args[0]) && k != api.KindVoid {
			return api.ErrNoType
		}
		for _, id := range args[1:] {
			if k := saidKind(m, id); !plain(id) && k != api.KindPointer {
				return api.ErrNoType
			}
		}
	}
	return saidWhole(m, at, kind)
}

// saidWhole are the last three rules.
func saidWhole(m api.Module, at int, kind uint8) api.Errno {
	i := m.Insts[at]
	switch {
	case kind == 0:
		return api.OK
	case kind == api.KindArray || kind == api.KindStruct:
		if saidSize(m, i.Result) > 4096 {
			return api.ErrSize
		}
		if saidDepth(m, i.Result) > 16 {
			return api.ErrLarge
		}
		return api.OK
	}
	for _, x := range m.Insts[:at] {
		if x.Op == i.Op && slices.Equal(x.Args, i.Args) {
			return api.ErrSame
		}
	}
	return api.OK
}

// saidNew is what New says of a module whose ids are sound.
func saidNew(m api.Module) api.Spot {
	for at := range m.Insts {
		if e := saidError(m, at); e != api.OK {
			return spot(e, at)
		}
	}
	return api.Spot{}
}

// holdSaid says whether a table tells of all ids what the chapter says; some parts of those that have very many.
func holdSaid(t *testing.T, x *Table, m api.Module) {
	t.Helper()
	var order []uint32
	for _, i := range m.Insts {
		if saidKind(m, i.Result) != 0 {
			order = append(order, i.Result)
		}
	}
	if l := x.Ids(); !slices.Equal(l, order) {
		t.Fatalf("Ids: %v; not %v", l, order)
	}
	for id := range m.Bound + 2 {
		holdSaidOf(t, x, m, id)
		for _, b := range append(order, 0) {
			if x.Alike(id, b) != saidAlike(m, id, b) {
				t.Fatalf("Alike of %d and %d is not %v: %v", id, b, saidAlike(m, id, b), m)
			}
		}
	}
}

// holdSaidOf says whether a table tells of an id what the chapter says.
func holdSaidOf(t *testing.T, x *Table, m api.Module, id uint32) {
	t.Helper()
	_, i := saidMaker(m, id)
	kind, parts := saidKind(m, id), saidParts(m, id)
	if x.Kind(id) != kind || x.Count(id) != len(parts) || x.Size(id) != saidSize(m, id) || x.Plain(id) != saidPlain(m, id) {
		t.Fatalf("%d: kind %d, count %d, size %d, plain %v: %v", id, x.Kind(id), x.Count(id), x.Size(id), x.Plain(id), m)
	}
	if x.Signed(id) != (kind == api.KindInt && i.Args[1].N == 1) {
		t.Fatalf("%d: signed %v: %v", id, x.Signed(id), m)
	}
	class, is := x.Class(id)
	if is != (kind == api.KindPointer) || is && class != i.Args[0].N || !is && class != 0 {
		t.Fatalf("%d: class %d, %v: %v", id, class, is, m)
	}
	if s, is := x.Text(id); s != saidText(m, id) || is != (kind != 0) {
		t.Fatalf("%d: text %q, %v; not %q: %v", id, s, is, saidText(m, id), m)
	}
	holdSaidParts(t, x, m, id)
}

// holdSaidParts says whether a table tells of an id's parts what the chapter says, and nothing of what is no part.
func holdSaidParts(t *testing.T, x *Table, m api.Module, id uint32) {
	t.Helper()
	kind, parts := saidKind(m, id), saidParts(m, id)
	ahead := 0
	for k, p := range parts {
		if got, is := x.Part(id, k); got != p || !is {
			t.Fatalf("%d: part %d is %d, %v; not %d: %v", id, k, got, is, p, m)
		}
		wide := kind == api.KindVector || kind == api.KindArray || kind == api.KindStruct
		want := ahead
		if !wide {
			want = 0
		}
		if got, is := x.Offset(id, k); got != want || is != wide {
			t.Fatalf("%d: offset %d is %d, %v; not %d: %v", id, k, got, is, want, m)
		}
		if k > 0 && p == parts[k-1] && k > 20 {
			ahead += x.Size(p)
			continue
		}
		ahead += saidSize(m, p)
	}
	for _, k := range append(noParts(), len(parts), len(parts)+1) {
		if p, is := x.Part(id, k); p != 0 || is {
			t.Fatalf("%d: part %d is %d, %v: %v", id, k, p, is, m)
		}
		if n, is := x.Offset(id, k); n != 0 || is {
			t.Fatalf("%d: offset %d is %d, %v: %v", id, k, n, is, m)
		}
	}
}
