package print

import (
	"strconv"

	"intaglio/api"
	"intaglio/grammar"
)

// instTokens are the tokens of the line of an instruction of good shape.
func instTokens(i api.Inst) []api.Token {
	f, _ := grammar.Of(i.Op)
	var l []api.Token
	add := func(more ...api.Token) { l = append(l, more...) }
	if f.Result {
		add(id(i.Result), equal())
	}
	add(word(f.Name))
	if f.Type {
		add(id(i.Type))
	}
	for at, a := range i.Args {
		add(argument(grammar.Letter(i.Op, at), a))
	}
	return l
}

// argument is an argument's token; by its letter the name of an enumerant is found.
func argument(letter byte, a api.Arg) api.Token {
	switch a.Kind {
	case api.ArgId:
		return id(a.N)
	case api.ArgNumber:
		return number(a.N)
	case api.ArgText:
		return text(a.S)
	default:
		name, _ := grammar.Enum(letter, a.N)
		return word(name)
	}
}

// word, id, number, text, equal: a token of each kind.
func word(s string) api.Token { return api.Token{Kind: api.TokWord, Text: s} }

func id(n uint32) api.Token { return api.Token{Kind: api.TokId, Text: digits(n)} }

func number(n uint32) api.Token { return api.Token{Kind: api.TokNumber, Text: digits(n)} }

func text(s string) api.Token { return api.Token{Kind: api.TokString, Text: s} }

func equal() api.Token { return api.Token{Kind: api.TokEqual, Text: "="} }

// digits is a number in plain digits.
func digits(n uint32) string { return strconv.FormatUint(uint64(n), 10) }
