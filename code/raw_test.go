package code

import (
	"math"
	"slices"
	"strings"
	"testing"

	"intaglio/api"
	"intaglio/grammar"
)

// P4.2: instructions as words.
func TestRaw(t *testing.T) {
	for _, c := range []struct {
		name string
		i    api.Inst
		want api.Raw
	}{
		{"the chapter's OpName", inst(5, 0, 0, id(3), text("a")), raw(5, 3, 0x61)},
		{"OpIAdd", inst(0x80, 1, 2, id(3), id(4)), raw(0x80, 1, 2, 3, 4)},
		{"nothing but its operation", inst(253, 0, 0), raw(253)},
		{"an empty list", api.Inst{Op: 253, Args: []api.Arg{}}, raw(253)},
		{"a result alone", inst(248, 0, 8), raw(248, 8)},
		{"numbers of any size", inst(21, 0, 4, num(0), num(0xffffffff)), raw(21, 4, 0, 0xffffffff)},
		{"a text of 0 bytes", inst(7, 0, 1, text("")), raw(7, 1, 0)},
		{"a text of 3 bytes", inst(7, 0, 1, text("abc")), raw(7, 1, 0x00636261)},
		{"a text of 4 bytes", inst(7, 0, 1, text("abcd")), raw(7, 1, 0x64636261, 0)},
		{"a text of 5 bytes", inst(7, 0, 1, text("abcde")), raw(7, 1, 0x64636261, 0x65)},
		{"a text of any bytes", inst(7, 0, 1, text("\xff\x80\n")), raw(7, 1, 0x000a80ff)},
		{"ids behind a text", inst(15, 0, 0, enum(4), id(3), text("abcd"), id(5), id(6)), raw(15, 4, 3, 0x64636261, 0, 5, 6)},
		{"no row of OpPhi", inst(0xf5, 1, 2), raw(0xf5, 1, 2)},
		{"a row of OpSwitch", inst(251, 0, 0, id(1), id(2), num(0), id(3)), raw(251, 1, 2, 0, 3)},
		{"the one row of OpVariable", inst(59, 1, 2, enum(6), id(3)), raw(59, 1, 2, 6, 3)},
	} {
		if r, e := Raw(c.i, 9); e != api.OK || !alikeRaws(r, c.want) {
			t.Errorf("%s: %v, %d", c.name, r, e)
		}
	}
}

// P4.2: instructions that may not be so; R2: of several faults the one that is asked first, and nothing beside it.
func TestRawRefuses(t *testing.T) {
	endless := strings.Repeat("a", 4*api.MaxCount)
	beside := func(a api.Arg, n uint32, s string) api.Arg { return api.Arg{Kind: a.Kind, N: a.N + n, S: a.S + s} }
	for _, c := range []struct {
		name string
		i    api.Inst
		e    api.Errno
	}{
		{"no operation", inst(22, 0, 0), api.ErrOp},
		{"the operation 0", inst(0, 1, 2, id(3)), api.ErrOp},
		{"the last operation", inst(0xffff, 0, 0), api.ErrOp},
		{"the chapter's OpReturn with a type", inst(253, 1, 0), api.ErrType},
		{"OpReturn with a huge type", inst(253, math.MaxUint32, 0), api.ErrType},
		{"a type where there is a result alone", inst(248, 1, 2), api.ErrType},
		{"no type", inst(0x80, 0, 2, id(3), id(4)), api.ErrType},
		{"a type that is the bound", inst(0x80, 9, 2, id(3), id(4)), api.ErrId},
		{"the chapter's OpLabel without a result", inst(248, 0, 0), api.ErrResult},
		{"OpReturn with a result", inst(253, 0, 1), api.ErrResult},
		{"OpReturn with a huge result", inst(253, 0, math.MaxUint32), api.ErrResult},
		{"no result", inst(0x80, 1, 0, id(3), id(4)), api.ErrResult},
		{"a result that is the bound", inst(0x80, 1, 9, id(3), id(4)), api.ErrId},
		{"the chapter's N beside a text", inst(5, 0, 0, id(3), beside(text("a"), 1, "")), api.ErrOperand},
		{"N beside a text of no bytes", inst(5, 0, 0, id(3), beside(text(""), 1, "")), api.ErrOperand},
		{"S beside an id", inst(62, 0, 0, id(3), beside(id(4), 0, "a")), api.ErrOperand},
		{"S beside a number", inst(21, 0, 1, num(32), beside(num(0), 0, "a")), api.ErrOperand},
		{"S beside an enumerant", inst(17, 0, 0, beside(enum(1), 0, "Shader")), api.ErrOperand},
		{"a number for an id", inst(62, 0, 0, id(3), num(4)), api.ErrOperand},
		{"an id for a number", inst(43, 1, 2, id(3)), api.ErrOperand},
		{"a number for an enumerant", inst(17, 0, 0, num(1)), api.ErrOperand},
		{"an enumerant for a number", inst(43, 1, 2, enum(1)), api.ErrOperand},
		{"an id for a text", inst(5, 0, 0, id(3), id(4)), api.ErrOperand},
		{"a text for an id", inst(5, 0, 0, text(""), text("")), api.ErrOperand},
		{"the kind 0", inst(62, 0, 0, id(3), api.Arg{N: 4}), api.ErrOperand},
		{"the kind 5", inst(62, 0, 0, id(3), api.Arg{Kind: 5, N: 4}), api.ErrOperand},
		{"the kind 255", inst(62, 0, 0, id(3), api.Arg{Kind: 255, N: 4}), api.ErrOperand},
		{"the kind 0 where nothing may stand", inst(253, 0, 0, api.Arg{}), api.ErrOperand},
		{"the kind 0 behind all", inst(62, 0, 0, id(3), id(4), api.Arg{}), api.ErrOperand},
		{"an id too many", inst(62, 0, 0, id(3), id(4), id(5)), api.ErrOperand},
		{"an id where nothing may stand", inst(253, 0, 0, id(3)), api.ErrOperand},
		{"an operand lacks", inst(62, 0, 0, id(3)), api.ErrOperand},
		{"all lack", inst(62, 0, 0), api.ErrOperand},
		{"a text lacks", inst(5, 0, 0, id(3)), api.ErrOperand},
		{"half a row", inst(0xf5, 1, 2, id(3)), api.ErrOperand},
		{"a row and a half", inst(251, 0, 0, id(1), id(2), num(1), id(3), num(2)), api.ErrOperand},
		{"a second row of OpVariable", inst(59, 1, 2, enum(6), id(3), id(4)), api.ErrOperand},
		{"an id that is 0", inst(62, 0, 0, id(3), id(0)), api.ErrId},
		{"an id that is the bound", inst(62, 0, 0, id(9), id(3)), api.ErrId},
		{"a huge id", inst(62, 0, 0, id(math.MaxUint32), id(3)), api.ErrId},
		{"an enumerant that names nothing", inst(17, 0, 0, enum(2)), api.ErrEnum},
		{"an enumerant of another letter", inst(59, 1, 2, enum(30)), api.ErrEnum},
		{"a text with a byte 0", inst(5, 0, 0, id(3), text("a\x00b")), api.ErrNul},
		{"a text of a byte 0", inst(5, 0, 0, id(3), text("\x00")), api.ErrNul},
		{"a text that is too long", inst(5, 0, 0, id(3), text(endless)), api.ErrCount},

		{"no operation, ahead of all", inst(22, 1, 2, api.Arg{}), api.ErrOp},
		{"no type, ahead of no result", inst(0x80, 0, 0), api.ErrType},
		{"a bad type, ahead of no result", inst(0x80, 9, 0), api.ErrId},
		{"a type too many, ahead of a result too many", inst(253, 1, 1), api.ErrType},
		{"no result, ahead of operands", inst(0x80, 1, 0, num(3)), api.ErrResult},
		{"a bad result, ahead of operands", inst(0x80, 1, 9, num(3)), api.ErrId},
		{"another kind, ahead of its being no id", inst(62, 0, 0, api.Arg{Kind: api.ArgNumber}, id(3)), api.ErrOperand},
		{"S, ahead of a bad id", inst(62, 0, 0, beside(id(0), 0, "a"), id(3)), api.ErrOperand},
		{"S, ahead of a bad enumerant", inst(17, 0, 0, beside(enum(2), 0, "a")), api.ErrOperand},
		{"N, ahead of a byte 0", inst(5, 0, 0, id(3), beside(text("\x00"), 1, "")), api.ErrOperand},
		{"a bad id, ahead of another kind behind it", inst(62, 0, 0, id(0), num(3)), api.ErrId},
		{"a bad enumerant, ahead of a bad id behind it", inst(59, 1, 2, enum(2), id(0)), api.ErrEnum},
		{"a byte 0, ahead of a bad id behind it", inst(15, 0, 0, enum(0), id(3), text("\x00"), id(0)), api.ErrNul},
		{"a byte 0, ahead of too many words", inst(5, 0, 0, id(3), text(endless+"\x00")), api.ErrNul},
		{"a bad id, ahead of what lacks", inst(62, 0, 0, id(9)), api.ErrId},
		{"a bad id, ahead of its row's end", inst(0xf5, 1, 2, id(3), id(4), id(9)), api.ErrId},
		{"another kind, ahead of too many words", inst(15, 0, 0, enum(0), id(3), text(endless), num(4)), api.ErrOperand},
		{"a bad id, ahead of too many words", inst(15, 0, 0, enum(0), id(3), text(endless), id(4), id(0)), api.ErrId},
		{"one too many, ahead of too many words", inst(5, 0, 0, id(3), text(endless), id(3)), api.ErrOperand},
	} {
		if r, e := Raw(c.i, 9); e != c.e || !alikeRaws(r, api.Raw{}) {
			t.Errorf("%s: %d words, %d", c.name, len(r.Words), e)
		}
	}
}

// P4.2: an instruction of every form, with rows of Rest.
func TestRawOfEveryForm(t *testing.T) {
	for _, s := range samples() {
		if r, e := Raw(s.inst, 99); e != api.OK || !alikeRaws(r, raw(s.inst.Op, s.words...)) {
			t.Errorf("%v: %v, %d", s.inst, r, e)
		}
	}
}

// P4.2: a type and a result where every form has none, and none where it has one; each of 0, one below the bound, the bound.
func TestRawOwnIds(t *testing.T) {
	faultOf := func(has bool, n uint32, wrong api.Errno) api.Errno {
		switch {
		case has != (n > 0):
			return wrong
		case has && n >= 99:
			return api.ErrId
		}
		return api.OK
	}
	edges := []uint32{0, 1, 98, 99, math.MaxUint32}
	for f := range grammar.All() {
		for _, typeId := range edges {
			for _, result := range edges {
				i := sampleOf(f, 0).inst
				i.Type, i.Result = typeId, result
				want := faultOf(f.Type, typeId, api.ErrType)
				if want == api.OK {
					want = faultOf(f.Result, result, api.ErrResult)
				}
				if _, e := Raw(i, 99); e != want {
					t.Errorf("%s, type %d, result %d: %d", f.Name, typeId, result, e)
				}
			}
		}
	}
}

// P4.2: each argument of every form's instruction with other kinds, and with other numbers.
func TestRawArguments(t *testing.T) {
	for _, s := range samples() {
		for at, a := range s.inst.Args {
			for kind := range uint8(7) {
				for _, n := range []uint32{0, 1, 2, 3, 4, 7, 8, 11, 14, 30, 98, 99, math.MaxUint32} {
					i := s.inst
					i.Args = slices.Clone(i.Args)
					i.Args[at].Kind, i.Args[at].N = kind, n
					want := wantedOf(i.Args[at], a.Kind, grammar.Letter(i.Op, at))
					if _, e := Raw(i, 99); e != want {
						t.Errorf("%v: %d", i, e)
					}
				}
			}
		}
	}
}

// wantedOf is what Raw must say of an argument, by the bound 99, in the place of one of a kind and a letter.
func wantedOf(a api.Arg, kind, letter uint8) api.Errno {
	_, named := grammar.Enum(letter, a.N)
	switch {
	case a.Kind != kind, kind == api.ArgText && a.N != 0:
		return api.ErrOperand
	case kind == api.ArgId && (a.N == 0 || a.N >= 99):
		return api.ErrId
	case kind == api.ArgEnum && !named:
		return api.ErrEnum
	}
	return api.OK
}

// P4.2: every form's instruction with arguments taken away from its end, and with more.
func TestRawNumberOfArguments(t *testing.T) {
	for f := range grammar.All() {
		full := sampleOf(f, mostRows(f)).inst
		for n := range len(full.Args) + 1 {
			want := api.OK
			if behind := n - len(f.Fixed); behind < 0 || behind > 0 && behind%len(f.Rest) != 0 {
				want = api.ErrOperand
			}
			i := full
			i.Args = full.Args[:n]
			if _, e := Raw(i, 99); e != want {
				t.Errorf("%s with %d: %d", f.Name, n, e)
			}
		}
		if f.Rest != "" && f.Most == 0 {
			continue
		}
		for kind := range uint8(6) {
			i := full
			i.Args = append(slices.Clone(full.Args), api.Arg{Kind: kind})
			if _, e := Raw(i, 99); e != api.ErrOperand {
				t.Errorf("%s with one more of the kind %d: %d", f.Name, kind, e)
			}
		}
	}
}

// P4.2: as many words as an instruction may have, and one more; what lacks is told ahead of that.
func TestRawLongest(t *testing.T) {
	many := func(n int) []api.Arg { return slices.Repeat([]api.Arg{id(1)}, n) }
	for _, c := range []struct {
		name string
		i    api.Inst
		n    int
		e    api.Errno
	}{
		{"ids", inst(30, 0, 1, many(api.MaxCount-2)...), api.MaxCount - 1, api.OK},
		{"one id more", inst(30, 0, 1, many(api.MaxCount-1)...), 0, api.ErrCount},
		{"many ids more", inst(30, 0, 1, many(3*api.MaxCount)...), 0, api.ErrCount},
		{"rows", inst(0xf5, 1, 2, many(api.MaxCount-3)...), api.MaxCount - 1, api.OK},
		{"half a row less", inst(0xf5, 1, 2, many(api.MaxCount-4)...), 0, api.ErrOperand},
		{"half a row more", inst(0xf5, 1, 2, many(api.MaxCount-2)...), 0, api.ErrOperand},
		{"a row more", inst(0xf5, 1, 2, many(api.MaxCount-1)...), 0, api.ErrCount},
		{"the longest text", inst(7, 0, 1, text(strings.Repeat("a", 4*(api.MaxCount-3)+3))), api.MaxCount - 1, api.OK},
		{"a text of one byte more", inst(7, 0, 1, text(strings.Repeat("a", 4*(api.MaxCount-2)))), 0, api.ErrCount},
		{"a text of MaxCount words", inst(7, 0, 1, text(strings.Repeat("a", 4*api.MaxCount-1))), 0, api.ErrCount},
		{"a text of one word more", inst(7, 0, 1, text(strings.Repeat("a", 4*api.MaxCount))), 0, api.ErrCount},
		{"a text, and ids that fit", inst(15, 0, 0, enum(0), id(1), text(strings.Repeat("a", 4*(api.MaxCount-5)+3)), id(1)), api.MaxCount - 1, api.OK},
		{"a text, and ids that don't", inst(15, 0, 0, enum(0), id(1), text(strings.Repeat("a", 4*(api.MaxCount-5)+3)), id(1), id(1)), 0, api.ErrCount},
		{"a text of too many, and ids", inst(15, 0, 0, append([]api.Arg{enum(0), id(1), text(strings.Repeat("a", 4*api.MaxCount))}, many(9)...)...), 0, api.ErrCount},
	} {
		if r, e := Raw(c.i, 9); e != c.e || len(r.Words) != c.n || e != api.OK && r.Op != 0 {
			t.Errorf("%s: %d words, %d", c.name, len(r.Words), e)
		}
	}
}

// P4.2: an instruction has words just if it is of good shape, as the chapter's words say that.
func TestRawIsGoodShape(t *testing.T) {
	d := dice(4)
	all := samples()
	good := 0
	for range 200000 {
		i := anyInst(&d, all)
		if _, e := Raw(i, 9); (e == api.OK) != goodShape(i, 9) {
			t.Fatalf("%v: %d", i, e)
		} else if e == api.OK {
			good++
		}
	}
	if good < 10000 {
		t.Errorf("only %d of good shape", good)
	}
}

// anyInst is one of the samples' instructions, to which a fault or several may be given.
func anyInst(d *dice, all []sample) api.Inst {
	i := all[d.below(len(all))].inst
	i.Args = slices.Clone(i.Args)
	for range d.below(3) {
		switch d.below(8) {
		case 0:
			i.Op = uint16(d.below(260))
		case 1:
			i.Type = uint32(d.below(11))
		case 2:
			i.Result = uint32(d.below(11))
		case 3:
			i.Args = append(i.Args, anyArg(d))
		case 4:
			i.Args = i.Args[:d.below(len(i.Args)+1)]
		default:
			if len(i.Args) > 0 {
				i.Args[d.below(len(i.Args))] = anyArg(d)
			}
		}
	}
	return i
}

// anyArg is an argument that may have a fault.
func anyArg(d *dice) api.Arg {
	a := api.Arg{Kind: uint8(d.below(6))}
	if a.Kind != api.ArgText || d.below(5) == 0 {
		a.N = uint32(d.below(11))
	}
	if a.Kind == api.ArgText || d.below(5) == 0 {
		a.S = []string{"", "a", "abcd", "a\x00"}[d.below(4)]
	}
	return a
}

// goodShape is what the chapter's words ask of an instruction.
func goodShape(i api.Inst, bound uint32) bool {
	f, ok := grammar.Of(i.Op)
	if !ok || f.Type != (i.Type > 0) || f.Result != (i.Result > 0) || i.Type >= bound || i.Result >= bound {
		return false
	}
	var kinds []uint8
	n := 1
	for _, own := range []bool{f.Type, f.Result} {
		if own {
			n++
		}
	}
	for _, a := range i.Args {
		kinds = append(kinds, a.Kind)
		n += 1 + len(a.S)/4
	}
	if _, ok := grammar.Fits(i.Op, kinds); !ok || n > api.MaxCount {
		return false
	}
	for at, a := range i.Args {
		_, named := grammar.Enum(grammar.Letter(i.Op, at), a.N)
		if a.Kind == api.ArgId && (a.N == 0 || a.N >= bound) || a.Kind == api.ArgEnum && !named ||
			a.Kind == api.ArgText && (a.N != 0 || strings.Contains(a.S, "\x00")) || a.Kind != api.ArgText && a.S != "" {
			return false
		}
	}
	return true
}

// P4.7: there and back, by the same bound and by greater ones.
func TestInstOfRaw(t *testing.T) {
	for _, s := range samples() {
		for _, bound := range []uint32{50, 51, api.MaxBound, api.MaxBound + 1, math.MaxUint32} {
			r, e := Raw(s.inst, bound)
			i, back := Inst(r, bound)
			if e != api.OK || back != api.OK || !alike(i, s.inst) {
				t.Errorf("%v by %d: %d, %d, %v", s.inst, bound, e, back, i)
			}
		}
	}
}

// P4.7: back and there, of whatever words; by the same bound and by greater ones.
func TestRawOfInst(t *testing.T) {
	d := dice(7)
	said := 0
	all := samples()
	for range 200000 {
		s := all[d.below(len(all))]
		w := slices.Clone(s.words)
		for range d.below(4) {
			switch n := len(w); {
			case d.below(3) == 0:
				w = append(w, uint32(d.below(11)))
			case n > 0 && d.below(3) == 0:
				w = w[:n-1]
			case n > 0:
				w[d.below(n)] = []uint32{uint32(d.below(11)), 0x61, 0x61616161, 0x61006161}[d.below(4)]
			}
		}
		r := raw(s.inst.Op, w...)
		i, e := Inst(r, 9)
		if e != api.OK {
			continue
		}
		said++
		for _, bound := range []uint32{9, 10, api.MaxBound, math.MaxUint32} {
			wider, e := Inst(r, bound)
			back, wrong := Raw(i, bound)
			if e != api.OK || wrong != api.OK || !alike(wider, i) || !alikeRaws(back, r) {
				t.Fatalf("%v by %d: %v, %d, %v, %d", r, bound, wider, e, back, wrong)
			}
		}
	}
	if said < 10000 {
		t.Errorf("only %d say an instruction", said)
	}
}

// R3: the arguments that are handed in are neither changed nor kept, nor the room behind them.
func TestRawKeepsApart(t *testing.T) {
	own := []api.Arg{id(3), id(4), id(5), id(6)}
	i := inst(30, 0, 1, own[:2]...)
	r, e := Raw(i, 9)
	other, _ := Raw(i, 9)
	if e != api.OK || !slices.Equal(own, []api.Arg{id(3), id(4), id(5), id(6)}) {
		t.Fatalf("%v, %d: %v", r, e, own)
	}
	clear(own)
	if !alikeRaws(r, raw(30, 1, 3, 4)) {
		t.Errorf("kept: %v", r)
	}
	clear(r.Words[:cap(r.Words)])
	if !alikeRaws(other, raw(30, 1, 3, 4)) {
		t.Errorf("shared: %v", other)
	}
}
