package asm

import (
	"intaglio/api"
	"intaglio/lex"
)

// row is a line's tokens, which are taken one behind the other.
type row struct {
	tokens []api.Token
	next   int // the number of the token that is next
	length int // how many bytes the line has: the place of what lacks
}

// rowOf is the row of a line.
func rowOf(line string) (row, api.Spot) {
	l, s := lex.Tokens(line)
	return row{tokens: l, length: len(line)}, s
}

// ended says whether all tokens are taken.
func (r *row) ended() bool { return r.next == len(r.tokens) }

// take takes the token that is next, which must be of that kind.
func (r *row) take(kind uint8) (api.Token, api.Spot) {
	if r.ended() {
		return api.Token{}, api.Spot{Err: api.ErrEarly, At: r.length}
	}
	t := r.tokens[r.next]
	if t.Kind != kind {
		return api.Token{}, faultAt(t, api.ErrLine)
	}
	r.next++
	return t, api.Spot{}
}

// faultAt is an error that is told at a token; nothing, if there is none.
func faultAt(t api.Token, e api.Errno) api.Spot {
	if e == api.OK {
		return api.Spot{}
	}
	return api.Spot{Err: e, At: t.At}
}

// head takes the head's line.
func (r *row) head() (api.Head, api.Spot) {
	t, s := r.take(api.TokWord)
	if s.Err == api.OK && t.Text != "module" {
		s = faultAt(t, api.ErrLine)
	}
	if s.Err != api.OK {
		return api.Head{}, s
	}
	generator, _, s := r.number()
	if s.Err != api.OK {
		return api.Head{}, s
	}
	bound, t, s := r.number()
	switch {
	case s.Err != api.OK:
		return api.Head{}, s
	case bound == 0 || bound > api.MaxBound:
		return api.Head{}, faultAt(t, api.ErrBound)
	case !r.ended():
		return api.Head{}, faultAt(r.tokens[r.next], api.ErrLine)
	}
	return api.Head{Generator: generator, Bound: bound}, api.Spot{}
}

// number takes a number, and answers its token, too.
func (r *row) number() (uint32, api.Token, api.Spot) {
	t, s := r.take(api.TokNumber)
	if s.Err != api.OK {
		return 0, t, s
	}
	n, e := lex.Number(t.Text)
	return n, t, faultAt(t, e)
}
