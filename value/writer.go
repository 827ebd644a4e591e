package value

import (
	"strconv"
	"strings"

	"intaglio/api"
	"intaglio/types"
)

// writer makes a value's text, from its first word on.
type writer struct {
	strings.Builder
	table *types.Table
	left  []uint32 // the words that are not written yet
}

// next takes the next word.
func (x *writer) next() uint32 {
	n := x.left[0]
	x.left = x.left[1:]
	return n
}

// write writes the value of a type that is next.
func (x *writer) write(ty uint32) {
	switch x.table.Kind(ty) {
	case api.KindBool:
		x.WriteString(strconv.FormatBool(x.next() == 1))
	case api.KindInt:
		n := x.next()
		if x.table.Signed(ty) {
			x.WriteString(strconv.FormatInt(int64(int32(n)), 10))
			return
		}
		x.WriteString(strconv.FormatUint(uint64(n), 10))
	default:
		x.writeParts(ty)
	}
}

// writeParts writes the parts of the value that is next.
func (x *writer) writeParts(ty uint32) {
	x.WriteByte('{')
	for k := range x.table.Count(ty) {
		if k > 0 {
			x.WriteString(", ")
		}
		part, _ := x.table.Part(ty, k)
		x.write(part)
	}
	x.WriteByte('}')
}
