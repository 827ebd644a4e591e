package value

import (
	"slices"
	"strconv"
	"strings"
	"testing"

	"intaglio/api"
	"intaglio/types"
)

// dice are numbers that look like chance, and are the same at every run.
type dice uint64

// below is a number below n.
func (d *dice) below(n int) int {
	*d = *d*6364136223846793005 + 1442695040888963407
	return int(uint64(*d)>>33) % n
}

// oneOf is one of some things.
func oneOf[T any](d *dice, l ...T) T { return l[d.below(len(l))] }

// word is a word: often one at an edge.
func (d *dice) word() uint32 {
	return oneOf(d, 0, 1, 2, 9, 10, 1<<31-1, 1<<31, 1<<31+1, 1<<32-2, 1<<32-1, uint32(d.below(1<<31)), uint32(d.below(1<<31))*2+1)
}

// large is how many words the types may have of modules made by chance.
const large = 40

// types is the types of a module made by chance, and the ids of the plain ones.
func (d *dice) types(t testing.TB) (*types.Table, []uint32) {
	l := []string{"%1 = OpTypeVoid", "%2 = OpTypeBool", "%3 = OpTypeInt 32 0", "%4 = OpTypeInt 32 1", "%5 = OpConstant %3 1", "%6 = OpConstant %3 2", "%7 = OpConstant %4 3", "%8 = OpConstant %4 5"}
	made := []uint32{2, 3, 4}
	x := tableOf(t, l...)
	for id := uint32(10); id < 30; id++ {
		what := d.made(made)
		if slices.ContainsFunc(l, func(line string) bool { return strings.HasSuffix(line, "= "+what) }) {
			continue // there may be but one such vector
		}
		longer := append(slices.Clone(l), named(id)+" = "+what)
		if y := tableOf(t, longer...); y.Size(id) <= large {
			l, x, made = longer, y, append(made, id)
		}
	}
	return x, made
}

// named is an id as it stands in a line.
func named(id uint32) string { return "%" + strconv.Itoa(int(id)) }

// made is what makes a vector, an array or a struct of types that are made: mostly of the last ones.
func (d *dice) made(made []uint32) string {
	some := func() string { return " " + named(oneOf(d, made[d.below(len(made)):]...)) }
	switch d.below(5) {
	case 0:
		return "OpTypeStruct" + strings.Repeat(some(), 1+d.below(4))
	case 1, 2:
		line := "OpTypeStruct"
		for range 1 + d.below(4) {
			line += some()
		}
		return line
	case 3:
		return "OpTypeArray" + some() + " " + named(uint32(5+d.below(4)))
	}
	return "OpTypeVector " + named(uint32(2+d.below(3))) + " " + strconv.Itoa(2+d.below(3))
}

// value is a value of a plain type.
func (d *dice) value(x *types.Table, ty uint32) []uint32 {
	var w []uint32
	for _, leaf := range saidLeaves(x, ty) {
		if x.Kind(leaf) == api.KindBool {
			w = append(w, uint32(d.below(2)))
		} else {
			w = append(w, d.word())
		}
	}
	return w
}

// spoiled is a row of words, made of a value: mostly none itself.
func (d *dice) spoiled(w []uint32) []uint32 {
	w = slices.Clone(w)
	switch d.below(4) {
	case 0:
		return append(w, d.word())
	case 1:
		return w[:d.below(len(w))]
	}
	w[d.below(len(w))] = d.word()
	return w
}

// path is a path from a plain type that leads somewhere.
func (d *dice) path(x *types.Table, ty uint32) []uint32 {
	var path []uint32
	for x.Count(ty) > 0 && d.below(5) > 0 {
		k := d.below(x.Count(ty))
		path = append(path, uint32(k))
		ty, _ = x.Part(ty, k)
	}
	return path
}

// anyPath is a path that may lead nowhere.
func (d *dice) anyPath(x *types.Table, ty uint32) []uint32 {
	path := d.path(x, ty)
	for range d.below(3) {
		path = append(path, oneOf(d, 0, 1, 2, 3, 4, 5, d.word()))
	}
	if len(path) > 0 && d.below(4) == 0 {
		path[d.below(len(path))] = oneOf(d, 0, 1, 2, 3, 4, 5, d.word())
	}
	return path
}

// text is a text of a value, with blanks where they may stand.
func (d *dice) text(x *types.Table, ty uint32, w []uint32) string {
	n, _ := grown(x, ty, w)
	s := strings.ReplaceAll(n.text(x), " ", "")
	blanks := func() string { return strings.Repeat(" ", max(0, d.below(6)-3)) }
	var b strings.Builder
	for k := range len(s) {
		if strings.IndexByte("{},", s[k]) >= 0 {
			b.WriteString(blanks() + s[k:k+1] + blanks())
			continue
		}
		b.WriteByte(s[k])
	}
	return blanks() + b.String() + blanks()
}

// spoiledText is a text made of another one, with some bytes less, other, or more.
func (d *dice) spoiledText(s string) string {
	for range 1 + d.below(2) {
		k := d.below(len(s) + 1)
		more := oneOf(d, "", "", " ", "{", "}", ",", "-", "0", "1", "00", "9999999999", "true", "t", "x", "\t")
		s = s[:k] + more + s[min(len(s), k+d.below(3)):]
	}
	return s
}
