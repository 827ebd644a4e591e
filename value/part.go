package value

import (
	"iter"

	"intaglio/api"
	"intaglio/types"
)

// part is where a part of a value stands: its type, the place of its first word, how many it has.
type part struct {
	typeId     uint32
	from, size int
}

// follow is the part to which a path leads from a plain type; false, if it leads nowhere.
func follow(t *types.Table, ty uint32, path []uint32) (part, bool) {
	from, left := 0, path
walk:
	for len(left) > 0 {
		k := int(left[0])
		offset, is := t.Offset(ty, k)
		if !is {
			break walk
		}
		from += offset
		ty, _ = t.Part(ty, k)
		left = left[1:]
	}
	return part{typeId: ty, from: from, size: t.Size(ty)}, len(left) == 0
}

// taken is the part's words, apart from the whole value's.
func (p part) taken(w []uint32) []uint32 {
	l := make([]uint32, p.size)
	copy(l, w[p.from:])
	return l
}

// changed is the whole value with other words in the place of the part's.
func (p part) changed(w, words []uint32) []uint32 {
	l := make([]uint32, len(w))
	copy(l, w)
	copy(l[p.from:], words)
	return l
}

// leaves tells the types of a type's leaves, in order; what is not plain has none.
func leaves(t *types.Table, ty uint32) iter.Seq[uint32] {
	return func(yield func(uint32) bool) {
		switch t.Kind(ty) {
		case api.KindBool, api.KindInt:
			yield(ty)
		case api.KindVector, api.KindArray, api.KindStruct:
			for k := range t.Count(ty) {
				below, _ := t.Part(ty, k)
				for leaf := range leaves(t, below) {
					if !yield(leaf) {
						return
					}
				}
			}
		}
	}
}
