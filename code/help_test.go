package code

import (
	"slices"
	"strings"

	"intaglio/api"
	"intaglio/grammar"
)

// id, num, enum, text: arguments.
func id(n uint32) api.Arg { return api.Arg{Kind: api.ArgId, N: n} }

func num(n uint32) api.Arg { return api.Arg{Kind: api.ArgNumber, N: n} }

func enum(n uint32) api.Arg { return api.Arg{Kind: api.ArgEnum, N: n} }

func text(s string) api.Arg { return api.Arg{Kind: api.ArgText, S: s} }

// raw is an instruction as words.
func raw(op uint16, w ...uint32) api.Raw { return api.Raw{Op: op, Words: w} }

// inst is an instruction.
func inst(op uint16, typeId, result uint32, l ...api.Arg) api.Inst {
	return api.Inst{Op: op, Type: typeId, Result: result, Args: l}
}

// alike holds instructions against each other field by field, without the package's help; nil and empty lists are one.
func alike(a, b api.Inst) bool {
	if a.Op != b.Op || a.Type != b.Type || a.Result != b.Result || len(a.Args) != len(b.Args) {
		return false
	}
	for i, x := range a.Args {
		if y := b.Args[i]; x.Kind != y.Kind || x.N != y.N || x.S != y.S {
			return false
		}
	}
	return true
}

// alikeModules holds modules against each other, without the package's help.
func alikeModules(a, b api.Module) bool {
	return a.Generator == b.Generator && a.Bound == b.Bound && slices.EqualFunc(a.Insts, b.Insts, alike)
}

// alikeRaws holds raw instructions against each other.
func alikeRaws(a, b api.Raw) bool { return a.Op == b.Op && slices.Equal(a.Words, b.Words) }

// apart is a module with lists of its own.
func apart(m api.Module) api.Module {
	m.Insts = slices.Clone(m.Insts)
	for i := range m.Insts {
		m.Insts[i].Args = slices.Clone(m.Insts[i].Args)
	}
	return m
}

// bytesOf is words as bytes, the lowest byte first.
func bytesOf(w ...uint32) []byte {
	var b []byte
	for _, x := range w {
		b = append(b, byte(x), byte(x>>8), byte(x>>16), byte(x>>24))
	}
	return b
}

// moduleOf is the bytes of a head of the bound 9, and of words behind it.
func moduleOf(more ...uint32) []byte {
	return bytesOf(append([]uint32{0x07230203, 0x00010000, 7, 9, 0}, more...)...)
}

// sample is an instruction of a form, with so many rows of Rest, and the words that it must be; its ids are 1, 2 and so on, in order. spots says of each word what it is: t, r or the letter of its argument; - is a word of a text behind its first one.
type sample struct {
	inst  api.Inst
	words []uint32
	spots string
}

// sampleOf makes one by the form's letters.
func sampleOf(f api.Form, rows int) sample {
	s := sample{inst: api.Inst{Op: f.Op}}
	if f.Type {
		s.inst.Type = 1
		s.add("t", 1)
	}
	if f.Result {
		s.inst.Result = 2
		s.add("r", 2)
	}
	for i, letter := range []byte(f.Fixed + strings.Repeat(f.Rest, rows)) {
		s.argument(letter, uint32(3+i))
	}
	return s
}

// add adds words.
func (s *sample) add(spots string, w ...uint32) {
	s.words = append(s.words, w...)
	s.spots += spots
}

// argument adds an argument of a letter; n is what an id or a number is.
func (s *sample) argument(letter byte, n uint32) {
	spot := string(letter)
	switch letter {
	case 'i':
		s.inst.Args = append(s.inst.Args, id(n))
		s.add(spot, n)
	case 'n':
		s.inst.Args = append(s.inst.Args, num(^n))
		s.add(spot, ^n)
	case 's':
		s.inst.Args = append(s.inst.Args, text("main\xffab"))
		s.add(spot+"-", 0x6e69616d, 0x006261ff)
	default:
		n = greatest(letter)
		s.inst.Args = append(s.inst.Args, enum(n))
		s.add(spot, n)
	}
}

// greatest is the greatest enumerant of a letter.
func greatest(letter byte) uint32 {
	var n uint32
	for x := range grammar.Enums(letter) {
		n = x
	}
	return n
}

// mostRows is how many rows of Rest samples of a form have at most.
func mostRows(f api.Form) int {
	switch {
	case f.Rest == "":
		return 0
	case f.Most != 0:
		return f.Most
	}
	return 3
}

// samples are instructions of all forms, with no row of Rest, with one, and so on.
func samples() []sample {
	var l []sample
	for f := range grammar.All() {
		for rows := range mostRows(f) + 1 {
			l = append(l, sampleOf(f, rows))
		}
	}
	return l
}

// sampleModule is a module of good shape with an instruction of every form.
func sampleModule() api.Module {
	m := api.Module{Generator: 0xfedcba98, Bound: 99}
	for _, s := range samples() {
		m.Insts = append(m.Insts, s.inst)
	}
	return m
}

// dice are numbers that look like chance, and are the same at every run.
type dice uint64

// below is a number below n.
func (d *dice) below(n int) int {
	*d = *d*6364136223846793005 + 1442695040888963407
	return int(uint64(*d)>>33) % n
}
