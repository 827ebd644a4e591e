package value

import (
	"iter"
	"math/big"
	"regexp"
	"slices"
	"strings"

	"intaglio/api"
	"intaglio/types"
)

// What the chapter says, said once more: a value is a tree here, and a text is gone through by a list of what is wanted; neither sizes nor offsets are asked for.

// tree is a value: a leaf with its word, or parts.
type tree struct {
	typeId uint32
	word   uint32
	parts  []*tree
}

// isLeaf says whether a type is a truth's or a number's.
func isLeaf(x *types.Table, ty uint32) bool {
	return x.Kind(ty) == api.KindBool || x.Kind(ty) == api.KindInt
}

// grown is the tree of a plain type, its words taken from the front of others as far as there are any, and what is left of these.
func grown(x *types.Table, ty uint32, w []uint32) (*tree, []uint32) {
	n := &tree{typeId: ty}
	if isLeaf(x, ty) {
		if len(w) > 0 {
			n.word, w = w[0], w[1:]
		}
		return n, w
	}
	for k := range x.Count(ty) {
		p, _ := x.Part(ty, k)
		var part *tree
		part, w = grown(x, p, w)
		n.parts = append(n.parts, part)
	}
	return n, w
}

// flat are the leaves of a tree, in order.
func (n *tree) flat() []*tree {
	if n.parts == nil {
		return []*tree{n}
	}
	var l []*tree
	for _, p := range n.parts {
		l = append(l, p.flat()...)
	}
	return l
}

// words are a tree's words.
func (n *tree) words() []uint32 {
	var w []uint32
	for _, leaf := range n.flat() {
		w = append(w, leaf.word)
	}
	return w
}

// at is the tree to which a path leads; nil, if it leads nowhere.
func (n *tree) at(path []uint32) *tree {
	if len(path) == 0 {
		return n
	}
	if uint64(path[0]) >= uint64(len(n.parts)) {
		return nil
	}
	return n.parts[path[0]].at(path[1:])
}

// text is a tree's text.
func (n *tree) text(x *types.Table) string {
	switch {
	case x.Kind(n.typeId) == api.KindBool:
		return [2]string{"false", "true"}[n.word]
	case x.Kind(n.typeId) == api.KindInt:
		v := new(big.Int).SetUint64(uint64(n.word))
		if x.Signed(n.typeId) && n.word >= 1<<31 {
			v.Sub(v, new(big.Int).Lsh(big.NewInt(1), 32))
		}
		return v.String()
	}
	var l []string
	for _, p := range n.parts {
		l = append(l, p.text(x))
	}
	return "{" + strings.Join(l, ", ") + "}"
}

// saidLeaves are the leaves of a plain type, by their numbers.
func saidLeaves(x *types.Table, ty uint32) iter.Seq2[int, uint32] {
	n, _ := grown(x, ty, nil)
	var l []uint32
	for _, leaf := range n.flat() {
		l = append(l, leaf.typeId)
	}
	return slices.All(l)
}

// saidFits says whether words are a value of a plain type.
func saidFits(x *types.Table, ty uint32, w []uint32) bool {
	n, left := grown(x, ty, w)
	leaves := n.flat()
	if len(left) > 0 || len(leaves) != len(w) {
		return false
	}
	return !slices.ContainsFunc(leaves, func(leaf *tree) bool {
		return x.Kind(leaf.typeId) == api.KindBool && leaf.word != 0 && leaf.word != 1
	})
}

// saidGet is what Get answers of a plain type.
func saidGet(x *types.Table, ty uint32, w, path []uint32) (uint32, []uint32, api.Errno) {
	if !saidFits(x, ty, w) {
		return 0, nil, api.ErrArg
	}
	n, _ := grown(x, ty, w)
	p := n.at(path)
	if p == nil {
		return 0, nil, api.ErrPlace
	}
	return p.typeId, p.words(), api.OK
}

// saidPut is what Put answers of a plain type.
func saidPut(x *types.Table, ty uint32, w, path, part []uint32) ([]uint32, api.Errno) {
	if !saidFits(x, ty, w) {
		return nil, api.ErrArg
	}
	n, _ := grown(x, ty, w)
	p := n.at(path)
	if p == nil {
		return nil, api.ErrPlace
	}
	if !saidFits(x, p.typeId, part) {
		return nil, api.ErrArg
	}
	for k, leaf := range p.flat() {
		leaf.word = part[k]
	}
	return n.words(), api.OK
}

// saidWants is what a text of a plain type must have, one behind the other: t a truth, u and i a number without and with a sign, else the very byte.
func saidWants(x *types.Table, ty uint32) string {
	switch {
	case x.Kind(ty) == api.KindBool:
		return "t"
	case x.Signed(ty):
		return "i"
	case x.Kind(ty) == api.KindInt:
		return "u"
	}
	var l []string
	for k := range x.Count(ty) {
		p, _ := x.Part(ty, k)
		l = append(l, saidWants(x, p))
	}
	return "{" + strings.Join(l, ",") + "}"
}

var (
	rowForm  = regexp.MustCompile(`^-?[0-9]*`)
	wellForm = regexp.MustCompile(`^(0|-?[1-9][0-9]*)$`)
)

// saidNumber is the word of a row of a - and digits; false, if it may not be.
func saidNumber(row string, signed bool) (uint32, bool) {
	if !wellForm.MatchString(row) {
		return 0, false
	}
	n, _ := new(big.Int).SetString(row, 10)
	least, most := int64(0), int64(1<<32-1)
	if signed {
		least, most = -1<<31, 1<<31-1
	}
	if n.Cmp(big.NewInt(least)) < 0 || n.Cmp(big.NewInt(most)) > 0 {
		return 0, false
	}
	return uint32(n.Int64()), true
}

// shared is how many bytes at the front two texts share.
func shared(a, b string) int {
	n := 0
	for n < len(a) && n < len(b) && a[n] == b[n] {
		n++
	}
	return n
}

// saidParse is what Parse answers of a plain type.
func saidParse(x *types.Table, ty uint32, s string) ([]uint32, api.Spot) {
	var w []uint32
	left := s
	fault := func(ahead int) ([]uint32, api.Spot) {
		return nil, api.Spot{Err: api.ErrForm, At: len(s) - len(left) + ahead}
	}
	for _, want := range []byte(saidWants(x, ty)) {
		left = strings.TrimLeft(left, " ")
		taken := 1
		switch want {
		case 't':
			k := slices.IndexFunc([]string{"false", "true"}, func(word string) bool { return strings.HasPrefix(left, word) })
			if k < 0 {
				return fault(max(shared(left, "false"), shared(left, "true")))
			}
			w, taken = append(w, uint32(k)), 5-k
		case 'u', 'i':
			row := rowForm.FindString(left)
			n, is := saidNumber(row, want == 'i')
			if !is {
				return fault(0)
			}
			w, taken = append(w, n), len(row)
		default:
			if left == "" || left[0] != want {
				return fault(0)
			}
		}
		left = left[taken:]
	}
	if left = strings.TrimLeft(left, " "); left != "" {
		return fault(0)
	}
	return w, api.Spot{}
}
