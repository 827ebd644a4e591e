package asm

import (
	"strings"

	"intaglio/api"
	"intaglio/grammar"
	"intaglio/lex"
)

// wanted is what must stand as an argument: its letter, and the bound of ids.
type wanted struct {
	letter byte
	bound  uint32
}

// taker is the kind of token that must stand there, and that one of the methods which makes an argument of its Text. If no argument may stand there the kind is 0, which no token has.
func (w wanted) taker() (uint8, func(string) (api.Arg, api.Errno)) {
	switch grammar.Kind(w.letter) {
	case api.ArgId:
		return api.TokId, w.id
	case api.ArgNumber:
		return api.TokNumber, w.number
	case api.ArgText:
		return api.TokString, w.text
	case api.ArgEnum:
		return api.TokWord, w.enum
	}
	return 0, w.none
}

// id is the argument of an id.
func (w wanted) id(text string) (api.Arg, api.Errno) {
	n, e := lex.Number(text)
	switch {
	case e != api.OK:
		return api.Arg{}, e
	case n == 0 || n >= w.bound:
		return api.Arg{}, api.ErrId
	}
	return api.Arg{Kind: api.ArgId, N: n}, api.OK
}

// number is the argument of a number.
func (w wanted) number(text string) (api.Arg, api.Errno) {
	n, e := lex.Number(text)
	if e != api.OK {
		return api.Arg{}, e
	}
	return api.Arg{Kind: api.ArgNumber, N: n}, api.OK
}

// text is the argument of a text.
func (w wanted) text(text string) (api.Arg, api.Errno) {
	if strings.IndexByte(text, 0) >= 0 {
		return api.Arg{}, api.ErrNul
	}
	return api.Arg{Kind: api.ArgText, S: text}, api.OK
}

// enum is the argument of an enumerant's name.
func (w wanted) enum(text string) (api.Arg, api.Errno) {
	n, ok := grammar.EnumNamed(w.letter, text)
	if !ok {
		return api.Arg{}, api.ErrName
	}
	return api.Arg{Kind: api.ArgEnum, N: n}, api.OK
}

// none refuses whatever stands there.
func (w wanted) none(string) (api.Arg, api.Errno) { return api.Arg{}, api.ErrLine }
