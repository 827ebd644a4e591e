package code

import (
	"intaglio/api"
	"intaglio/grammar"
)

// form is an operation's form, and the bound of the ids that its instructions may name: what reading and writing share.
type form struct {
	api.Form
	bound uint32
}

// fault is what is wrong with the word of an argument of that letter.
func (f *form) fault(letter byte, n uint32) api.Errno {
	switch grammar.Kind(letter) {
	case api.ArgId:
		return f.idFault(n)
	case api.ArgEnum:
		if _, named := grammar.Enum(letter, n); !named {
			return api.ErrEnum
		}
	}
	return api.OK
}

// idFault is what is wrong with an id.
func (f *form) idFault(n uint32) api.Errno {
	if n == 0 || n >= f.bound {
		return api.ErrId
	}
	return api.OK
}

// whole says whether no argument lacks behind these, each of which is of its letter's kind.
func (f *form) whole(l []api.Arg) bool {
	kinds := make([]uint8, len(l))
	for i, a := range l {
		kinds[i] = a.Kind
	}
	_, ok := grammar.Fits(f.Op, kinds)
	return ok
}
