package print

import (
	"slices"
	"strconv"
	"strings"
	"testing"

	"intaglio/api"
	"intaglio/code"
	"intaglio/grammar"
)

// spot is a fault at a place.
func spot(e api.Errno, at int) api.Spot { return api.Spot{Err: e, At: at} }

// anId, aNumber, anEnum, aText: arguments.
func anId(n uint32) api.Arg { return api.Arg{Kind: api.ArgId, N: n} }

func aNumber(n uint32) api.Arg { return api.Arg{Kind: api.ArgNumber, N: n} }

func anEnum(n uint32) api.Arg { return api.Arg{Kind: api.ArgEnum, N: n} }

func aText(s string) api.Arg { return api.Arg{Kind: api.ArgText, S: s} }

// inst is an instruction.
func inst(op uint16, typeId, result uint32, l ...api.Arg) api.Inst {
	return api.Inst{Op: op, Type: typeId, Result: result, Args: l}
}

// module is a module.
func module(generator, bound uint32, l ...api.Inst) api.Module {
	return api.Module{Generator: generator, Bound: bound, Insts: l}
}

// brief is a text in quotes, cut off if it is long.
func brief(s string) string {
	if len(s) > 200 {
		return strconv.Quote(s[:100]) + " .. " + strconv.Quote(s[len(s)-50:])
	}
	return strconv.Quote(s)
}

// holdLine says whether Line is that line.
func holdLine(t *testing.T, i api.Inst, bound uint32, want string) {
	t.Helper()
	if s, e := Line(i, bound); s != want || e != api.OK {
		t.Errorf("Line by %d: %s, %d; not %s", bound, brief(s), e, brief(want))
	}
}

// holdFault says whether Line is that error, as code.Raw's is, and nothing beside it.
func holdFault(t *testing.T, i api.Inst, bound uint32, want api.Errno) {
	t.Helper()
	if s, e := Line(i, bound); s != "" || e != want {
		t.Errorf("Line by %d of the operation %d: %s, %d; not %d", bound, i.Op, brief(s), e, want)
	}
	if _, e := code.Raw(i, bound); e != want {
		t.Errorf("code.Raw by %d of the operation %d: %d; not %d", bound, i.Op, e, want)
	}
}

// holdText says whether Text is that text, and Bytes of the module's bytes too.
func holdText(t *testing.T, m api.Module, want string) {
	t.Helper()
	if s, e := Text(m); s != want || e != (api.Spot{}) {
		t.Errorf("Text: %s, %v; not %s", brief(s), e, brief(want))
	}
	b, e := code.Encode(m)
	if e != (api.Spot{}) {
		t.Fatalf("a module that has no bytes: %v", e)
	}
	if s, e := Bytes(b); s != want || e != (api.Spot{}) {
		t.Errorf("Bytes: %s, %v; not %s", brief(s), e, brief(want))
	}
}

// holdRefused says whether Text is that fault, as code.Shape's is, and nothing beside it.
func holdRefused(t *testing.T, m api.Module, want api.Spot) {
	t.Helper()
	if s, e := Text(m); s != "" || e != want {
		t.Errorf("Text: %s, %v; not %v", brief(s), e, want)
	}
	if e := code.Shape(m); e != want {
		t.Errorf("code.Shape: %v; not %v", e, want)
	}
}

// holdBytesRefused says whether Bytes is that fault, as code.Decode's is, and nothing beside it.
func holdBytesRefused(t *testing.T, b []byte, want api.Spot) {
	t.Helper()
	if s, e := Bytes(b); s != "" || e != want {
		t.Errorf("Bytes: %s, %v; not %v", brief(s), e, want)
	}
	if _, e := code.Decode(b); e != want {
		t.Errorf("code.Decode: %v; not %v", e, want)
	}
}

// bytesOf are words as bytes, the lowest one first.
func bytesOf(l ...uint32) []byte {
	var b []byte
	for _, w := range l {
		b = append(b, byte(w), byte(w>>8), byte(w>>16), byte(w>>24))
	}
	return b
}

// saidQuote is what chapter 6 says of a text in quotes, said once more.
func saidQuote(s string) string {
	q := `"`
	for _, c := range []byte(s) {
		piece := string(rune(c))
		if c == '"' || c == '\\' {
			piece = `\` + piece
		}
		if c < 32 || c > 126 {
			piece = strconv.FormatInt(int64(c), 16)
			piece = `\x` + strings.Repeat("0", 2-len(piece)) + piece
		}
		q += piece
	}
	return q + `"`
}

// saidLine is what the chapter says of the line of an instruction of good shape, said once more.
func saidLine(i api.Inst) string {
	f, _ := grammar.Of(i.Op)
	line := f.Name
	if f.Result {
		line = "%" + strconv.Itoa(int(i.Result)) + " = " + line
	}
	if f.Type {
		line += " %" + strconv.Itoa(int(i.Type))
	}
	letters := f.Fixed
	for len(letters) < len(i.Args) {
		letters += f.Rest
	}
	pieces := []string{line}
	for at, a := range i.Args {
		switch letters[at] {
		case 'i':
			pieces = append(pieces, "%"+strconv.Itoa(int(a.N)))
		case 'n':
			pieces = append(pieces, strconv.Itoa(int(a.N)))
		case 's':
			pieces = append(pieces, saidQuote(a.S))
		default:
			pieces = append(pieces, enumName(letters[at], a.N))
		}
	}
	return strings.Join(pieces, " ")
}

// enumName is the name of a letter's enumerant.
func enumName(letter byte, n uint32) string {
	for number, name := range grammar.Enums(letter) {
		if number == n {
			return name
		}
	}
	return "?"
}

// saidText is what the chapter says of the text of a module of good shape, said once more.
func saidText(m api.Module) string {
	l := []string{"module " + strconv.Itoa(int(m.Generator)) + " " + strconv.Itoa(int(m.Bound))}
	for _, i := range m.Insts {
		l = append(l, saidLine(i))
	}
	return strings.Join(l, "\n") + "\n"
}

// enumNumbers are the numbers of a letter's enumerants.
func enumNumbers(letter byte) []uint32 {
	var l []uint32
	for n := range grammar.Enums(letter) {
		l = append(l, n)
	}
	return l
}

// sampleBound is the bound of the samples' ids.
const sampleBound = 20

// sampleText is a text with all that is not written as it is.
const sampleText = "a \"\\;\n\xff"

// sampleArg is an argument of a letter; n is what an id or a number is, pick which of the enumerants it is.
func sampleArg(letter byte, n uint32, pick int) api.Arg {
	switch letter {
	case 'i':
		return anId(n)
	case 'n':
		return aNumber(-n)
	case 's':
		return aText(sampleText)
	}
	l := enumNumbers(letter)
	return anEnum(l[pick%len(l)])
}

// sampleOf is an instruction of a form, with so many rows of Rest; its ids are 1, 2 and so on, in the order of its words.
func sampleOf(f api.Form, rows, pick int) api.Inst {
	i := api.Inst{Op: f.Op}
	if f.Type {
		i.Type = 1
	}
	if f.Result {
		i.Result = 2
	}
	for at, letter := range []byte(f.Fixed + strings.Repeat(f.Rest, rows)) {
		i.Args = append(i.Args, sampleArg(letter, uint32(3+at), pick))
	}
	return i
}

// mostRows is how many rows of Rest samples of a form have at most.
func mostRows(f api.Form) int {
	switch {
	case f.Rest == "":
		return 0
	case f.Most != 0:
		return f.Most
	}
	return 3
}

// samples are instructions of all forms, with no row of Rest, with one, and so on, and with each enumerant of each letter.
func samples() []api.Inst {
	var l []api.Inst
	for f := range grammar.All() {
		picks := 1
		for _, letter := range []byte(f.Fixed + f.Rest) {
			picks = max(picks, len(enumNumbers(letter)))
		}
		for rows := range mostRows(f) + 1 {
			for pick := range picks {
				l = append(l, sampleOf(f, rows, pick))
			}
		}
	}
	return l
}

// copied is an instruction with a list of its own.
func copied(i api.Inst) api.Inst {
	i.Args = slices.Clone(i.Args)
	return i
}

// dice are numbers that look like chance, and are the same at every run.
type dice uint64

// below is a number below n.
func (d *dice) below(n int) int {
	*d = *d*6364136223846793005 + 1442695040888963407
	return int(uint64(*d)>>33) % n
}

// of is one of several texts.
func (d *dice) of(l ...string) string { return l[d.below(len(l))] }

// text is a text of up to so many bytes of any kind but 0.
func (d *dice) text(most int) string {
	b := make([]byte, d.below(most+1))
	for i := range b {
		b[i] = byte(1 + d.below(255))
	}
	return string(b)
}

// number is a number, often one at an edge.
func (d *dice) number() uint32 {
	switch d.below(4) {
	case 0:
		return 0
	case 1:
		return 1<<32 - 1
	case 2:
		return 1 << d.below(32)
	}
	return uint32(d.below(1<<31)) * 2
}

// id is an id below a bound, often the first or the last one.
func (d *dice) id(bound uint32) uint32 {
	switch d.below(4) {
	case 0:
		return 1
	case 1:
		return bound - 1
	}
	return 1 + uint32(d.below(int(bound)-1))
}

// inst is an instruction of good shape by a bound, 2 at the least.
func (d *dice) inst(bound uint32) api.Inst {
	forms := slices.Collect(grammar.All())
	f := forms[d.below(len(forms))]
	i := sampleOf(f, d.below(mostRows(f)+1), d.below(60))
	if f.Type {
		i.Type = d.id(bound)
	}
	if f.Result {
		i.Result = d.id(bound)
	}
	for at, a := range i.Args {
		switch a.Kind {
		case api.ArgId:
			i.Args[at].N = d.id(bound)
		case api.ArgNumber:
			i.Args[at].N = d.number()
		case api.ArgText:
			i.Args[at].S = d.text(12)
		}
	}
	return i
}

// module is a module of good shape.
func (d *dice) module(most int) api.Module {
	m := module(d.number(), []uint32{2, 3, 20, 65535, api.MaxBound}[d.below(5)])
	for range d.below(most + 1) {
		m.Insts = append(m.Insts, d.inst(m.Bound))
	}
	return m
}

// spoiled is an instruction of which one thing is otherwise, mostly so that it is of good shape no more.
func (d *dice) spoiled(i api.Inst) api.Inst {
	i = copied(i)
	at := d.below(len(i.Args) + 1)
	if at == len(i.Args) {
		switch d.below(5) {
		case 0:
			i.Op = uint16(d.below(260))
		case 1:
			i.Type = uint32(d.below(sampleBound + 2))
		case 2:
			i.Result = uint32(d.below(sampleBound + 2))
		case 3:
			i.Args = append(i.Args, api.Arg{Kind: uint8(d.below(6)), N: uint32(d.below(3))})
		default:
			i.Args = i.Args[:d.below(len(i.Args)+1)]
		}
		return i
	}
	switch d.below(4) {
	case 0:
		i.Args[at].Kind = uint8(d.below(6))
	case 1:
		i.Args[at].N = uint32(d.below(sampleBound + 2))
	case 2:
		i.Args[at].S = d.of("", "a", "a\x00", "\x00b")
	default:
		i.Args = slices.Delete(i.Args, at, at+1)
	}
	return i
}
