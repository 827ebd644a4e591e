package typing

import (
	"slices"

	"intaglio/api"
)

// vectorExtract asks for a vector of such parts as come out, and for the number of one.
func (b body) vectorExtract(i api.Inst) bool {
	return b.element(b.of(i, 0)) == i.Type && b.isNumber(b.of(i, 1))
}

// vectorInsert asks for such a vector as comes out, for a part of it, and for the number of one.
func (b body) vectorInsert(i api.Inst) bool {
	part := b.element(i.Type)
	return part != 0 && b.of(i, 0) == i.Type && b.of(i, 1) == part && b.isNumber(b.of(i, 2))
}

// vectorShuffle asks for two vectors of such parts as come out, and for the numbers of as many parts of both together.
func (b body) vectorShuffle(i api.Inst) bool {
	first, second, picked := b.of(i, 0), b.of(i, 1), i.Args[2:]
	part := b.element(i.Type)
	if part == 0 || b.element(first) != part || b.element(second) != part {
		return false
	}
	together := uint32(b.Count(first) + b.Count(second))
	return b.Count(i.Type) == len(picked) && !slices.ContainsFunc(picked, func(a api.Arg) bool { return a.N >= together })
}

// compositeConstruct asks for all parts of what comes out.
func (b body) compositeConstruct(i api.Inst) bool {
	switch b.Kind(i.Type) {
	case api.KindVector, api.KindArray, api.KindStruct:
		return b.hasParts(i.Type, b.ofAll(i.Args))
	}
	return false
}

// compositeExtract asks that the path leads to what comes out.
func (b body) compositeExtract(i api.Inst) bool {
	return b.walked(b.of(i, 0), i.Args[1:]) == i.Type
}

// compositeInsert asks that the path leads to what is put there.
func (b body) compositeInsert(i api.Inst) bool {
	part := b.walked(i.Type, i.Args[2:])
	return part != 0 && b.of(i, 1) == i.Type && b.of(i, 0) == part
}

// walked is the type to which a path of numbers leads from a plain type; 0, if it leads nowhere, or the type is not plain.
func (j *judge) walked(typeId uint32, path []api.Arg) uint32 {
	if !j.Plain(typeId) {
		return 0
	}
	to := typeId
	for _, a := range path {
		to = j.part(to, int(a.N))
	}
	return to
}
