package code

import (
	"intaglio/api"
	"intaglio/grammar"
	"intaglio/words"
)

// reader takes an instruction from words: it knows its form, and which words are left.
type reader struct {
	form
	*words.Reader
}

// inst takes the whole instruction.
func (r *reader) inst() (api.Inst, api.Errno) {
	i := api.Inst{Op: r.Op}
	var e api.Errno
	if i.Type, e = r.ownId(r.Type, api.ErrType); e != api.OK {
		return api.Inst{}, e
	}
	if i.Result, e = r.ownId(r.Result, api.ErrResult); e != api.OK {
		return api.Inst{}, e
	}
	if i.Args, e = r.args(); e != api.OK {
		return api.Inst{}, e
	}
	return i, api.OK
}

// ownId takes the id of an instruction's type, or of its result, if it has one; lacks is told if no word is left for it.
func (r *reader) ownId(has bool, lacks api.Errno) (uint32, api.Errno) {
	if !has {
		return 0, api.OK
	}
	n, e := r.Word()
	if e != api.OK {
		return 0, lacks
	}
	return n, r.idFault(n)
}

// args takes the arguments, up to the last word.
func (r *reader) args() ([]api.Arg, api.Errno) {
	var l []api.Arg
	for r.Left() > 0 {
		a, e := r.arg(grammar.Letter(r.Op, len(l)))
		if e != api.OK {
			return nil, e
		}
		l = append(l, a)
	}
	// That no word is left for one of Fixed shows here, too.
	if !r.whole(l) {
		return nil, api.ErrOperand
	}
	return l, api.OK
}

// arg takes an argument of that letter; a word is left for it.
func (r *reader) arg(letter byte) (api.Arg, api.Errno) {
	if letter == 0 {
		return api.Arg{}, api.ErrOperand
	}
	a := api.Arg{Kind: grammar.Kind(letter)}
	var e api.Errno
	switch a.Kind {
	case api.ArgText:
		a.S, e = r.Text()
	case api.ArgId, api.ArgNumber, api.ArgEnum:
		a.N, _ = r.Word()
		e = r.fault(letter, a.N)
	}
	return a, e
}
