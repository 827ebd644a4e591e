package asm

import (
	"slices"
	"strconv"
	"strings"
	"testing"

	"intaglio/api"
	"intaglio/grammar"
	"intaglio/lex"
)

// spot is a fault at a place.
func spot(e api.Errno, at int) api.Spot { return api.Spot{Err: e, At: at} }

// id, num, enum, text: arguments.
func id(n uint32) api.Arg { return api.Arg{Kind: api.ArgId, N: n} }

func num(n uint32) api.Arg { return api.Arg{Kind: api.ArgNumber, N: n} }

func enum(n uint32) api.Arg { return api.Arg{Kind: api.ArgEnum, N: n} }

func text(s string) api.Arg { return api.Arg{Kind: api.ArgText, S: s} }

// inst is an instruction.
func inst(op uint16, typeId, result uint32, l ...api.Arg) api.Inst {
	return api.Inst{Op: op, Type: typeId, Result: result, Args: l}
}

// alike holds instructions against each other field by field; nil and empty lists are one.
func alike(a, b api.Inst) bool {
	return a.Op == b.Op && a.Type == b.Type && a.Result == b.Result && slices.Equal(a.Args, b.Args)
}

// alikeModules holds modules against each other.
func alikeModules(a, b api.Module) bool {
	return a.Generator == b.Generator && a.Bound == b.Bound && slices.EqualFunc(a.Insts, b.Insts, alike)
}

// holdInst says whether Line is that instruction.
func holdInst(t *testing.T, line string, bound uint32, want api.Inst) {
	t.Helper()
	if i, is, s := Line(line, bound); !is || s != (api.Spot{}) || !alike(i, want) {
		t.Errorf("Line(%s, %d): %v, %v, %v; not %v", brief(line), bound, i, is, s, want)
	}
}

// holdFault says whether Line is that fault (api.OK: an idle line), and nothing beside it.
func holdFault(t *testing.T, line string, bound uint32, want api.Spot) {
	t.Helper()
	if i, is, s := Line(line, bound); is || s != want || !alike(i, api.Inst{}) {
		t.Errorf("Line(%s, %d): %v, %v, %v; not %v", brief(line), bound, i, is, s, want)
	}
}

// holdHead says whether Head is that head, or that fault and nothing beside it.
func holdHead(t *testing.T, line string, want api.Head, fault api.Spot) {
	t.Helper()
	if h, s := Head(line); h != want || s != fault {
		t.Errorf("Head(%s): %v, %v; not %v, %v", brief(line), h, s, want, fault)
	}
}

// holdRefused says whether Parse is that fault, and nothing beside it.
func holdRefused(t *testing.T, all string, want api.Spot) {
	t.Helper()
	if m, s := Parse(all); s != want || !alikeModules(m, api.Module{}) {
		t.Errorf("Parse(%s): %d instructions, %v; not %v", brief(all), len(m.Insts), s, want)
	}
}

// brief is a text in quotes, cut off if it is long.
func brief(s string) string {
	if len(s) > 200 {
		return strconv.Quote(s[:100]) + " .. " + strconv.Quote(s[len(s)-50:])
	}
	return strconv.Quote(s)
}

// lines is a text of lines.
func lines(l ...string) string { return strings.Join(l, "\n") }

// saidHead is what the chapter says of a head's line, said once more, kind by kind.
func saidHead(line string) (api.Head, api.Spot) {
	l, s := lex.Tokens(line)
	if s.Err != api.OK {
		return api.Head{}, s
	}
	var said [2]uint32
	for i, t := range l {
		if i == 3 || i == 0 && (t.Kind != api.TokWord || t.Text != "module") || i > 0 && t.Kind != api.TokNumber {
			return api.Head{}, spot(api.ErrLine, t.At)
		}
		if i == 0 {
			continue
		}
		said[i-1], _ = lex.Number(t.Text)
		if i == 2 && (said[1] < 1 || said[1] > 65536) {
			return api.Head{}, spot(api.ErrBound, t.At)
		}
	}
	if len(l) < 3 {
		return api.Head{}, spot(api.ErrEarly, len(line))
	}
	return api.Head{Generator: said[0], Bound: said[1]}, api.Spot{}
}

// saidLetters are the letters of all that may stand behind an operation, t its type's id, as many as there are tokens at the most; and how many of them must stand, if so many do.
func saidLetters(f api.Form, many int) (string, int) {
	must := f.Fixed
	if f.Type {
		must = "t" + must
	}
	may := must
	if f.Rest == "" {
		return may, len(must)
	}
	rows := 0
	for len(may) < many && (f.Most == 0 || rows < f.Most) {
		may += f.Rest
		rows++
	}
	if many <= len(must) {
		return must, len(must)
	}
	return may, len(may)
}

// saidToken is the argument that a token is, by its letter, or what is wrong with it.
func saidToken(letter byte, t api.Token, bound uint32) (api.Arg, api.Errno) {
	kinds := map[byte]uint8{'i': api.TokId, 't': api.TokId, 'n': api.TokNumber, 's': api.TokString}
	kind, ok := kinds[letter]
	if !ok {
		kind = api.TokWord
	}
	if t.Kind != kind {
		return api.Arg{}, api.ErrLine
	}
	switch kind {
	case api.TokId:
		n, _ := strconv.ParseUint(t.Text, 10, 32)
		if n < 1 || n >= uint64(bound) {
			return api.Arg{}, api.ErrId
		}
		return id(uint32(n)), api.OK
	case api.TokNumber:
		n, e := lex.Number(t.Text)
		return num(n), e
	case api.TokString:
		if strings.Contains(t.Text, "\x00") {
			return api.Arg{}, api.ErrNul
		}
		return text(t.Text), api.OK
	}
	for n, name := range grammar.Enums(letter) {
		if name == t.Text {
			return enum(n), api.OK
		}
	}
	return api.Arg{}, api.ErrName
}

// saidLine is what the chapter says of an instruction's line, said once more, by the letters of the whole line. Lines of too many words are none of its business.
func saidLine(line string, bound uint32) (api.Inst, bool, api.Spot) {
	l, s := lex.Tokens(line)
	if s.Err != api.OK || len(l) == 0 {
		return api.Inst{}, false, s
	}
	refuse := func(e api.Errno, at int) (api.Inst, bool, api.Spot) { return api.Inst{}, false, spot(e, at) }
	first, said := l[0], l[0].Kind == api.TokId
	if said {
		if len(l) > 1 && l[1].Kind != api.TokEqual {
			return refuse(api.ErrLine, l[1].At)
		}
		if len(l) < 3 {
			return refuse(api.ErrEarly, len(line))
		}
		l = l[2:]
	}
	if l[0].Kind != api.TokWord {
		return refuse(api.ErrLine, l[0].At)
	}
	f, ok := api.Form{}, false
	for x := range grammar.All() {
		if x.Name == l[0].Text {
			f, ok = x, true
		}
	}
	if !ok {
		return refuse(api.ErrName, l[0].At)
	}
	if f.Result && !said {
		return refuse(api.ErrResult, l[0].At)
	}
	if !f.Result && said {
		return refuse(api.ErrResult, first.At)
	}
	i := api.Inst{Op: f.Op}
	if said {
		a, e := saidToken('i', first, bound)
		if e != api.OK {
			return refuse(e, first.At)
		}
		i.Result = a.N
	}
	l = l[1:]
	may, must := saidLetters(f, len(l))
	for at, t := range l {
		if at >= len(may) {
			return refuse(api.ErrLine, t.At)
		}
		a, e := saidToken(may[at], t, bound)
		if e != api.OK {
			return refuse(e, t.At)
		}
		if may[at] == 't' {
			i.Type = a.N
		} else {
			i.Args = append(i.Args, a)
		}
	}
	if len(l) < must {
		return refuse(api.ErrEarly, len(line))
	}
	return i, true, api.Spot{}
}

// holdSaid says whether Line is what the chapter says.
func holdSaid(t *testing.T, line string, bound uint32) api.Errno {
	t.Helper()
	want, wantIs, fault := saidLine(line, bound)
	if i, is, s := Line(line, bound); is != wantIs || s != fault || !alike(i, want) {
		t.Fatalf("Line(%q, %d): %v, %v, %v; not %v, %v, %v", line, bound, i, is, s, want, wantIs, fault)
	}
	return fault.Err
}

// sample is an instruction, and its line's tokens. spots says what each of them is: r the result's id, = and o the operation, t the type's id, and the letters of the arguments.
type sample struct {
	inst   api.Inst
	tokens []api.Token
	spots  string
}

// sampleBound is the bound of the samples' ids.
const sampleBound = 20

// add adds a token.
func (s *sample) add(spot byte, kind uint8, text string) {
	s.tokens = append(s.tokens, api.Token{Kind: kind, Text: text})
	s.spots += string(spot)
}

// argument adds an argument of a letter; n is what an id or a number is, pick which of the enumerants it is.
func (s *sample) argument(letter byte, n uint32, pick int) {
	switch letter {
	case 'i':
		s.inst.Args = append(s.inst.Args, id(n))
		s.add(letter, api.TokId, strconv.Itoa(int(n)))
	case 'n':
		s.inst.Args = append(s.inst.Args, num(-n))
		s.add(letter, api.TokNumber, "-"+strconv.Itoa(int(n)))
	case 's':
		s.inst.Args = append(s.inst.Args, text("a \"\\;\n\xff"))
		s.add(letter, api.TokString, "a \"\\;\n\xff")
	default:
		l := enumsOf(letter)
		e := l[pick%len(l)]
		s.inst.Args = append(s.inst.Args, enum(e.n))
		s.add(letter, api.TokWord, e.name)
	}
}

// enumerant is a number and its name.
type enumerant struct {
	n    uint32
	name string
}

// enumsOf are a letter's enumerants.
func enumsOf(letter byte) []enumerant {
	var l []enumerant
	for n, name := range grammar.Enums(letter) {
		l = append(l, enumerant{n, name})
	}
	return l
}

// sampleOf is a sample of a form, with so many rows of Rest; its ids are 1, 2 and so on, in the order of its words.
func sampleOf(f api.Form, rows, pick int) sample {
	s := sample{inst: api.Inst{Op: f.Op}}
	if f.Result {
		s.inst.Result = 2
		s.add('r', api.TokId, "2")
		s.add('=', api.TokEqual, "=")
	}
	s.add('o', api.TokWord, f.Name)
	if f.Type {
		s.inst.Type = 1
		s.add('t', api.TokId, "1")
	}
	for i, letter := range []byte(f.Fixed + strings.Repeat(f.Rest, rows)) {
		s.argument(letter, uint32(3+i), pick)
	}
	return s
}

// mostRows is how many rows of Rest samples of a form have at most.
func mostRows(f api.Form) int {
	switch {
	case f.Rest == "":
		return 0
	case f.Most != 0:
		return f.Most
	}
	return 3
}

// samples are samples of all forms, with no row of Rest, with one, and so on, and with each enumerant of each letter.
func samples() []sample {
	var l []sample
	for f := range grammar.All() {
		picks := 1
		for _, letter := range []byte(f.Fixed + f.Rest) {
			picks = max(picks, len(enumsOf(letter)))
		}
		for rows := range mostRows(f) + 1 {
			for pick := range picks {
				l = append(l, sampleOf(f, rows, pick))
			}
		}
	}
	return l
}

// lineOf is the line of tokens.
func lineOf(l []api.Token) string {
	s, e := lex.Write(l)
	if e != api.OK {
		panic("no tokens of a line")
	}
	return s
}

// moduleText is the text of a module: its samples line by line.
func moduleText(generator, bound uint32, l []sample) string {
	var b strings.Builder
	b.WriteString("module " + strconv.FormatUint(uint64(generator), 10) + " " + strconv.FormatUint(uint64(bound), 10) + "\n")
	for _, s := range l {
		b.WriteString(lineOf(s.tokens) + "\n")
	}
	return b.String()
}

// moduleOf is the module of samples.
func moduleOf(generator, bound uint32, l []sample) api.Module {
	m := api.Module{Generator: generator, Bound: bound}
	for _, s := range l {
		m.Insts = append(m.Insts, s.inst)
	}
	return m
}

// everyRow goes over all rows of these pieces, up to so many of them.
func everyRow(pieces []string, most int, each func(l []string)) {
	var grow func(l []string)
	grow = func(l []string) {
		each(l)
		if len(l) < most {
			for _, p := range pieces {
				grow(append(slices.Clone(l), p))
			}
		}
	}
	grow(nil)
}

// dice are numbers that look like chance, and are the same at every run.
type dice uint64

// below is a number below n.
func (d *dice) below(n int) int {
	*d = *d*6364136223846793005 + 1442695040888963407
	return int(uint64(*d)>>33) % n
}

// of is one of several texts.
func (d *dice) of(l ...string) string { return l[d.below(len(l))] }

// bytes is a text of up to so many bytes of any kind.
func (d *dice) bytes(most int) string {
	b := make([]byte, d.below(most+1))
	for i := range b {
		b[i] = byte(d.below(256))
	}
	return string(b)
}

// strayTokens are tokens of every kind, one of which may stand almost nowhere.
func strayTokens() []api.Token {
	return []api.Token{
		{Kind: api.TokWord, Text: "OpIAdd"}, {Kind: api.TokWord, Text: "OpReturn"}, {Kind: api.TokWord, Text: "None"}, {Kind: api.TokWord, Text: "module"},
		{Kind: api.TokId, Text: "1"}, {Kind: api.TokId, Text: "0"}, {Kind: api.TokId, Text: "19"}, {Kind: api.TokId, Text: "20"}, {Kind: api.TokId, Text: "4294967295"},
		{Kind: api.TokNumber, Text: "7"}, {Kind: api.TokNumber, Text: "0xffffffff"},
		{Kind: api.TokString, Text: ""}, {Kind: api.TokString, Text: "None"}, {Kind: api.TokString, Text: "a\x00b"},
		{Kind: api.TokEqual, Text: "="},
	}
}

// changed is a row of tokens with one put in, taken out, put in another one's place, or moved.
func (d *dice) changed(l []api.Token) []api.Token {
	l = slices.Clone(l)
	stray := strayTokens()
	t, at := stray[d.below(len(stray))], d.below(len(l)+1)
	if at == len(l) {
		return append(l, t)
	}
	switch d.below(4) {
	case 0:
		return slices.Insert(l, at, t)
	case 1:
		return slices.Delete(l, at, at+1)
	case 2:
		l[at] = t
	case 3:
		other := d.below(len(l))
		l[at], l[other] = l[other], l[at]
	}
	return l
}

// loose is a row of tokens as a line, with blanks of any kind and number between, and a note or none behind.
func (d *dice) loose(l []api.Token) string {
	var b strings.Builder
	for _, t := range l {
		b.WriteString(d.of("", " ", "\t", "\r "))
		b.WriteString(lineOf([]api.Token{t}))
		b.WriteString(d.of(" ", "\t", "\r", " \t\r "))
	}
	return b.String() + d.of("", "", ";", "; note", ";%x \"=\xff")
}

// idle is an idle line.
func (d *dice) idle() string {
	return d.of("", " ", "\t\r ", ";", "; note", " ;module 0 0", ";\x00\xff\"")
}
