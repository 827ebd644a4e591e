package value

import (
	"math"
	"strconv"

	"intaglio/api"
	"intaglio/types"
)

// reader reads a value's text, from its first byte on. Its calls answer false where something else stands than what they want; then the next byte is the one at which that shows.
type reader struct {
	table  *types.Table
	text   string
	at     int      // the place of the next byte
	words  []uint32 // what was read
	byKind map[uint8]func(ty uint32) bool
}

// newReader is a reader of a text.
func newReader(t *types.Table, s string) *reader {
	r := &reader{table: t, text: s}
	r.byKind = map[uint8]func(ty uint32) bool{
		api.KindBool:   r.truth,
		api.KindInt:    r.number,
		api.KindVector: r.parts,
		api.KindArray:  r.parts,
		api.KindStruct: r.parts,
	}
	return r
}

// read reads a value of a plain type.
func (r *reader) read(ty uint32) bool { return r.byKind[r.table.Kind(ty)](ty) }

// stands says whether a byte is the next one.
func (r *reader) stands(c byte) bool { return r.at < len(r.text) && r.text[r.at] == c }

// passBlanks goes on to what is no blank.
func (r *reader) passBlanks() {
	for r.stands(' ') {
		r.at++
	}
}

// ended says whether the end is next.
func (r *reader) ended() bool {
	r.passBlanks()
	return r.at == len(r.text)
}

// sign reads a {, a comma or a }.
func (r *reader) sign(want string) bool {
	r.passBlanks()
	return r.exactly(want)
}

// exactly reads these very bytes.
func (r *reader) exactly(want string) bool {
	for k := range len(want) {
		if !r.stands(want[k]) {
			return false
		}
		r.at++
	}
	return true
}

// truth reads true or false; their first bytes tell which one can be meant.
func (r *reader) truth(uint32) bool {
	r.passBlanks()
	word, want := uint32(0), "false"
	if r.stands('t') {
		word, want = 1, "true"
	}
	r.words = append(r.words, word)
	return r.exactly(want)
}

// number reads a number of a type. It goes on behind it only once the number may be: else the fault is where it begins.
func (r *reader) number(ty uint32) bool {
	r.passBlanks()
	row := r.row()
	least, most := int64(0), int64(math.MaxUint32)
	if r.table.Signed(ty) {
		least, most = math.MinInt32, math.MaxInt32
	}
	n, is := plainNumber(row)
	if !is || n < least || n > most {
		return false
	}
	r.words = append(r.words, uint32(n))
	r.at += len(row)
	return true
}

// row is the longest row of a - and digits that is next.
func (r *reader) row() string {
	end := r.at
	if r.stands('-') {
		end++
	}
	for end < len(r.text) && '0' <= r.text[end] && r.text[end] <= '9' {
		end++
	}
	return r.text[r.at:end]
}

// plainNumber is the number that a row says; false, if it would be written otherwise, or is far beyond all types.
func plainNumber(row string) (int64, bool) {
	n, e := strconv.ParseInt(row, 10, 64)
	if e != nil || strconv.FormatInt(n, 10) != row {
		return 0, false
	}
	return n, true
}

// parts reads a vector, an array or a struct.
func (r *reader) parts(ty uint32) bool {
	if !r.sign("{") {
		return false
	}
	for k := range r.table.Count(ty) {
		if k > 0 && !r.sign(",") {
			return false
		}
		part, _ := r.table.Part(ty, k)
		if !r.read(part) {
			return false
		}
	}
	return r.sign("}")
}
