package code

import (
	"math"
	"slices"
	"strings"
	"testing"

	"intaglio/api"
	"intaglio/grammar"
)

// P4.1: instructions that words say.
func TestInst(t *testing.T) {
	for _, c := range []struct {
		name string
		r    api.Raw
		want api.Inst
	}{
		{"the chapter's OpIAdd", raw(0x80, 1, 2, 3, 4), inst(0x80, 1, 2, id(3), id(4))},
		{"the chapter's OpName", raw(5, 3, 0x6e69616d, 0), inst(5, 0, 0, id(3), text("main"))},
		{"no words at all", raw(253), inst(253, 0, 0)},
		{"empty words", api.Raw{Op: 253, Words: []uint32{}}, inst(253, 0, 0)},
		{"a result alone", raw(248, 8), inst(248, 0, 8)},
		{"a type and a result", raw(1, 8, 8), inst(1, 8, 8)},
		{"ids of 1 and of one below the bound", raw(62, 1, 8), inst(62, 0, 0, id(1), id(8))},
		{"numbers of any size", raw(21, 4, 0, 0xffffffff), inst(21, 0, 4, num(0), num(0xffffffff))},
		{"a text of 0 bytes", raw(7, 1, 0), inst(7, 0, 1, text(""))},
		{"a text of 3 bytes", raw(7, 1, 0x00636261), inst(7, 0, 1, text("abc"))},
		{"a text of 4 bytes", raw(7, 1, 0x64636261, 0), inst(7, 0, 1, text("abcd"))},
		{"a text of 5 bytes", raw(7, 1, 0x64636261, 0x65), inst(7, 0, 1, text("abcde"))},
		{"a text of any bytes", raw(7, 1, 0x00ff80c3), inst(7, 0, 1, text("\xc3\x80\xff"))},
		{"a text behind a number", raw(6, 3, 0xffffffff, 0x61), inst(6, 0, 0, id(3), num(0xffffffff), text("a"))},
		{"ids behind a text", raw(15, 4, 3, 0x64636261, 0, 5, 6), inst(15, 0, 0, enum(4), id(3), text("abcd"), id(5), id(6))},
		{"no ids behind a text", raw(15, 0, 3, 0), inst(15, 0, 0, enum(0), id(3), text(""))},
		{"no row of OpPhi", raw(0xf5, 1, 2), inst(0xf5, 1, 2)},
		{"two rows of OpPhi", raw(0xf5, 1, 2, 3, 4, 5, 6), inst(0xf5, 1, 2, id(3), id(4), id(5), id(6))},
		{"two rows of OpSwitch", raw(251, 1, 2, 0, 3, 77, 4), inst(251, 0, 0, id(1), id(2), num(0), id(3), num(77), id(4))},
		{"no row of OpVariable", raw(59, 1, 2, 6), inst(59, 1, 2, enum(6))},
		{"the one row of OpVariable", raw(59, 1, 2, 6, 3), inst(59, 1, 2, enum(6), id(3))},
		{"numbers behind a decoration", raw(71, 3, 30, 9, 0), inst(71, 0, 0, id(3), enum(30), num(9), num(0))},
	} {
		if i, e := Inst(c.r, 9); e != api.OK || !alike(i, c.want) {
			t.Errorf("%s: %v, %d", c.name, i, e)
		}
	}
}

// P4.1: words that say none; R2: of several faults the one that is asked first, and nothing beside it.
func TestInstRefuses(t *testing.T) {
	for _, c := range []struct {
		name string
		r    api.Raw
		e    api.Errno
	}{
		{"an operand lacks", raw(0x80, 1, 2, 3), api.ErrOperand},
		{"both lack", raw(0x80, 1, 2), api.ErrOperand},
		{"the result lacks", raw(0x80, 1), api.ErrResult},
		{"all lacks", raw(0x80), api.ErrType},
		{"one too many", raw(0x80, 1, 2, 3, 4, 5), api.ErrOperand},
		{"the last one is the bound", raw(0x80, 1, 2, 3, 9), api.ErrId},
		{"the last one is huge", raw(0x80, 1, 2, 3, 0xffffffff), api.ErrId},
		{"the last one is 0", raw(0x80, 1, 2, 3, 0), api.ErrId},
		{"the type is 0", raw(0x80, 0, 2, 3, 4), api.ErrId},
		{"the type is the bound", raw(0x80, 9, 2, 3, 4), api.ErrId},
		{"the result is 0", raw(0x80, 1, 0, 3, 4), api.ErrId},
		{"the result is the bound", raw(0x80, 1, 9, 3, 4), api.ErrId},
		{"no operation", raw(22, 1), api.ErrOp},
		{"no operation, no words", raw(0), api.ErrOp},
		{"the last operation", raw(0xffff, 1), api.ErrOp},
		{"a number that names nothing", raw(0x11, 2), api.ErrEnum},
		{"a number that names something of another letter", raw(59, 1, 2, 30), api.ErrEnum},
		{"a huge number that names nothing", raw(0x11, 0xffffffff), api.ErrEnum},
		{"a word for what has none", raw(253, 1), api.ErrOperand},
		{"a word behind a result alone", raw(248, 1, 2), api.ErrOperand},
		{"the result of what has no type lacks", raw(248), api.ErrResult},
		{"a text that does not end", raw(5, 3, 0x6e69616d), api.ErrText},
		{"a long text that does not end", raw(5, 3, 0x6e69616d, 0x61616161), api.ErrText},
		{"no word for a text", raw(5, 3), api.ErrOperand},
		{"a byte behind a text's end", raw(5, 3, 0x61006161), api.ErrPad},
		{"a byte behind the end of a text of none", raw(5, 3, 0x00006100), api.ErrPad},
		{"a word behind a text", raw(5, 3, 0x61, 0), api.ErrOperand},
		{"half a row", raw(0xf5, 1, 2, 3), api.ErrOperand},
		{"a row and a half", raw(0xf5, 1, 2, 3, 4, 5), api.ErrOperand},
		{"half a row of OpSwitch", raw(251, 1, 2, 3), api.ErrOperand},
		{"an id of a row is the bound", raw(251, 1, 2, 3, 9), api.ErrId},
		{"a second row of OpVariable", raw(59, 1, 2, 6, 3, 4), api.ErrOperand},
		{"too many words", raw(0xf5, make([]uint32, api.MaxCount)...), api.ErrCount},

		{"too many words, ahead of no operation", raw(22, make([]uint32, api.MaxCount)...), api.ErrCount},
		{"no operation, ahead of ids", raw(22, 0, 0), api.ErrOp},
		{"a bad type, ahead of a result that lacks", raw(0x80, 9), api.ErrId},
		{"a bad result, ahead of an operand that lacks", raw(0x80, 1, 0), api.ErrId},
		{"a bad result, ahead of an enumerant", raw(59, 1, 9, 2), api.ErrId},
		{"a bad operand, ahead of one that lacks", raw(0x80, 1, 2, 9), api.ErrId},
		{"a bad id, ahead of a bad enumerant", raw(71, 0, 1), api.ErrId},
		{"a bad enumerant, ahead of a bad id", raw(59, 1, 2, 2, 0), api.ErrEnum},
		{"a bad enumerant, ahead of a text", raw(15, 1, 0, 0x61616161), api.ErrEnum},
		{"a bad id, ahead of a text", raw(15, 0, 0, 0x61616161), api.ErrId},
		{"a bad text, ahead of a bad id", raw(15, 0, 3, 0x00006100, 0), api.ErrPad},
		{"a text that ends, ahead of a bad id", raw(15, 0, 3, 0x61, 0), api.ErrId},
		{"a bad operand, ahead of one too many", raw(0x80, 1, 2, 3, 0, 5), api.ErrId},
		{"one too many, ahead of its being an id", raw(0x80, 1, 2, 3, 4, 0), api.ErrOperand},
		{"a bad id, ahead of its row's end", raw(0xf5, 1, 2, 3, 4, 9), api.ErrId},
	} {
		if i, e := Inst(c.r, 9); e != c.e || !alike(i, api.Inst{}) {
			t.Errorf("%s: %v, %d", c.name, i, e)
		}
	}
}

// P4.1: an instruction of every form, with rows of Rest.
func TestInstOfEveryForm(t *testing.T) {
	for _, s := range samples() {
		if i, e := Inst(raw(s.inst.Op, s.words...), 99); e != api.OK || !alike(i, s.inst) {
			t.Errorf("%v: %v, %d", s.inst, i, e)
		}
	}
}

// P4.1: the words of every form's instruction, cut behind each of them.
func TestInstCut(t *testing.T) {
	for f := range grammar.All() {
		s := sampleOf(f, 0)
		for n := range s.words {
			want := api.ErrOperand
			switch s.spots[n] {
			case 't':
				want = api.ErrType
			case 'r':
				want = api.ErrResult
			case '-':
				want = api.ErrText
			}
			if i, e := Inst(raw(f.Op, s.words[:n]...), 99); e != want || !alike(i, api.Inst{}) {
				t.Errorf("%s of %d words: %v, %d", f.Name, n, i, e)
			}
		}
	}
}

// P4.1: one word more than every form's instruction has.
func TestInstOneMore(t *testing.T) {
	for f := range grammar.All() {
		s := sampleOf(f, mostRows(f))
		want := api.ErrOperand
		if len(f.Rest) == 1 && f.Most == 0 {
			want = api.OK
		}
		if _, e := Inst(raw(f.Op, append(s.words, 5)...), 99); e != want {
			t.Errorf("%s: %d", f.Name, e)
		}
	}
}

// P4.1: each id of every form's instruction: 0, one below the bound, the bound; each number any word; each enumerant all of its letter's, and no others.
func TestInstWords(t *testing.T) {
	for _, s := range samples() {
		for at, spot := range []byte(s.spots) {
			for _, n := range []uint32{0, 1, 2, 3, 4, 7, 8, 11, 14, 29, 30, 31, 98, 99, 100, 1 << 16, math.MaxUint32} {
				var want api.Errno
				switch {
				case spot == 's' || spot == '-':
					continue
				case strings.IndexByte("tri", spot) >= 0 && (n == 0 || n >= 99):
					want = api.ErrId
				case strings.IndexByte("trin", spot) < 0:
					if _, ok := grammar.Enum(spot, n); !ok {
						want = api.ErrEnum
					}
				}
				w := slices.Clone(s.words)
				w[at] = n
				if _, e := Inst(raw(s.inst.Op, w...), 99); e != want {
					t.Errorf("%v, %d at %d: %d", s.inst, n, at, e)
				}
			}
		}
	}
}

// P4.1: any bound may be handed in.
func TestInstBounds(t *testing.T) {
	for _, c := range []struct {
		id, bound uint32
		e         api.Errno
	}{
		{0, 0, api.ErrId},
		{1, 0, api.ErrId},
		{0, 1, api.ErrId},
		{1, 1, api.ErrId},
		{1, 2, api.OK},
		{65535, 65536, api.OK},
		{65536, 65536, api.ErrId},
		{65536, 65537, api.OK},
		{0, math.MaxUint32, api.ErrId},
		{math.MaxUint32 - 1, math.MaxUint32, api.OK},
		{math.MaxUint32, math.MaxUint32, api.ErrId},
	} {
		if i, e := Inst(raw(248, c.id), c.bound); e != c.e || e == api.OK && i.Result != c.id {
			t.Errorf("%d by %d: %v, %d", c.id, c.bound, i, e)
		}
		if r, e := Raw(inst(62, 0, 0, id(c.id), id(c.id)), c.bound); e != c.e || e == api.OK && !alikeRaws(r, raw(62, c.id, c.id)) {
			t.Errorf("%d by %d: %v, %d", c.id, c.bound, r, e)
		}
	}
	for _, bound := range []uint32{0, 1, math.MaxUint32} {
		if i, e := Inst(raw(17, 1), bound); e != api.OK || !alike(i, inst(17, 0, 0, enum(1))) {
			t.Errorf("without ids by %d: %v, %d", bound, i, e)
		}
		if r, e := Raw(inst(17, 0, 0, enum(1)), bound); e != api.OK || !alikeRaws(r, raw(17, 1)) {
			t.Errorf("without ids by %d: %v, %d", bound, r, e)
		}
	}
}

// P4.1: as many words as an instruction may have, and one more.
func TestInstLongest(t *testing.T) {
	w := make([]uint32, api.MaxCount-1)
	for i := range w {
		w[i] = 1
	}
	i, e := Inst(raw(30, w...), 9)
	if e != api.OK || len(i.Args) != api.MaxCount-2 || i.Args[api.MaxCount-3] != id(1) {
		t.Errorf("OpTypeStruct: %d arguments, %d", len(i.Args), e)
	}
	if i, e := Inst(raw(30, append(w, 1)...), 9); e != api.ErrCount || !alike(i, api.Inst{}) {
		t.Errorf("OpTypeStruct: %d arguments, %d", len(i.Args), e)
	}
	if _, e := Inst(raw(7, w...), 9); e != api.ErrOperand {
		t.Errorf("OpString with words behind its text: %d", e)
	}
	for i := range w[1:] {
		w[i+1] = 0x01010101
	}
	if _, e := Inst(raw(7, w...), 9); e != api.ErrText {
		t.Errorf("OpString without an end: %d", e)
	}
	w[api.MaxCount-2] = 0x00010101
	i, e = Inst(raw(7, w...), 9)
	if e != api.OK || len(i.Args) != 1 || i.Args[0] != text(strings.Repeat("\x01", 4*(api.MaxCount-3)+3)) {
		t.Errorf("OpString: %d arguments, %d", len(i.Args), e)
	}
}

// R3: the words that are handed in are neither changed nor kept, nor the room behind them.
func TestInstKeepsApart(t *testing.T) {
	own := []uint32{0, 3, 0x61, 5, 6, 77, 78}
	r := raw(15, own[:5]...)
	i, e := Inst(r, 9)
	if e != api.OK || !slices.Equal(own, []uint32{0, 3, 0x61, 5, 6, 77, 78}) {
		t.Fatalf("%v, %d: %v", i, e, own)
	}
	clear(own)
	if !alike(i, inst(15, 0, 0, enum(0), id(3), text("a"), id(5), id(6))) {
		t.Errorf("kept: %v", i)
	}
	other, _ := Inst(raw(15, 0, 3, 0x61, 5, 6), 9)
	clear(i.Args[:cap(i.Args)])
	if !alike(other, inst(15, 0, 0, enum(0), id(3), text("a"), id(5), id(6))) {
		t.Errorf("shared: %v", other)
	}
}
