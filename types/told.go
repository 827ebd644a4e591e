package types

import (
	"strconv"
	"strings"

	"intaglio/api"
	"intaglio/grammar"
)

// sizeOf is how many words a type's values have. What is known of a type of the table is not told again: else types of types would be gone through as often as they stand in one another.
func (t *Table) sizeOf(x entry) int {
	if x.size > 0 {
		return x.size
	}
	n := 0
	switch x.kind {
	case api.KindBool, api.KindInt:
		n = 1
	case api.KindVector, api.KindArray:
		n = x.count * t.sizeOf(t.types[x.part(0)])
	case api.KindStruct:
		for _, p := range x.parts {
			n += t.sizeOf(t.types[p])
		}
	}
	return n
}

// depthOf is how many types stand in one another in a type; it is not told again, likewise.
func (t *Table) depthOf(x entry) int {
	if x.depth > 0 || !x.plain() {
		return x.depth
	}
	deepest := 0
	for _, p := range x.parts {
		deepest = max(deepest, t.depthOf(t.types[p]))
	}
	return deepest + 1
}

// textOf is a type's text.
func (t *Table) textOf(x entry) string {
	around := func(name string) string {
		var l []string
		for _, p := range x.parts {
			l = append(l, t.textOf(t.types[p]))
		}
		return name + "(" + strings.Join(l, ",") + ")"
	}
	switch x.kind {
	case api.KindVoid:
		return "void"
	case api.KindBool:
		return "bool"
	case api.KindInt:
		if x.signed {
			return "int"
		}
		return "uint"
	case api.KindVector:
		return around("vec" + strconv.Itoa(x.count))
	case api.KindArray:
		return around("array" + strconv.Itoa(x.count))
	case api.KindStruct:
		return around("struct")
	case api.KindPointer:
		class, _ := grammar.Enum('c', x.class)
		return around(class)
	default:
		return around("fn")
	}
}
