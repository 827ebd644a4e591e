package types

import "intaglio/api"

// common is what every type has.
type common struct {
	kind  uint8
	count int // how many parts
	size  int // 0, if it is not plain
	depth int // 0, if it is not plain
}

// entry is a type, as it stands in a table.
type entry struct {
	common
	signed bool     // of a number's type
	class  uint32   // of a pointer's
	parts  []uint32 // the parts' ids; of a vector and an array, whose parts are one type's, that id once
}

// plain says whether a type's values are words.
func (c common) plain() bool {
	switch c.kind {
	case api.KindBool, api.KindInt, api.KindVector, api.KindArray, api.KindStruct:
		return true
	}
	return false
}

// has says whether there is a part k.
func (c common) has(k int) bool { return 0 <= k && k < c.count }

// part is the id of a part that there is.
func (x entry) part(k int) uint32 {
	switch x.kind {
	case api.KindVector, api.KindArray:
		return x.parts[0]
	}
	return x.parts[k]
}

// single is a type of a kind without parts.
func single(kind uint8) entry { return entry{common: common{kind: kind}} }

// repeated is a type of a kind with so many parts of one type.
func repeated(kind uint8, part uint32, count int) entry {
	return entry{common: common{kind: kind, count: count}, parts: []uint32{part}}
}

// listed is a type of a kind with these parts; it keeps their list.
func listed(kind uint8, parts []uint32) entry {
	return entry{common: common{kind: kind, count: len(parts)}, parts: parts}
}
