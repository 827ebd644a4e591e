package code

import (
	"intaglio/api"
	"intaglio/grammar"
	"intaglio/words"
)

// writer puts an instruction into words.
type writer struct {
	form
	words []uint32
	count int // how many words the instruction has, its first one among them
}

// inst puts the whole instruction into words.
func (w *writer) inst(i api.Inst) api.Errno {
	if e := w.ownId(i.Type, w.Type, api.ErrType); e != api.OK {
		return e
	}
	if e := w.ownId(i.Result, w.Result, api.ErrResult); e != api.OK {
		return e
	}
	for at, a := range i.Args {
		letter := grammar.Letter(w.Op, at)
		if !mayStand(letter, a) {
			return api.ErrOperand
		}
		put := w.putter(a.Kind)
		if e := put(letter, a); e != api.OK {
			return e
		}
	}
	if !w.whole(i.Args) {
		return api.ErrOperand
	}
	if w.count > api.MaxCount {
		return api.ErrCount
	}
	return api.OK
}

// ownId puts the id of an instruction's type, or of its result, if it has one; wrong is told if there is none where one must be, or one where there can be none.
func (w *writer) ownId(n uint32, has bool, wrong api.Errno) api.Errno {
	if has != (n != 0) {
		return wrong
	}
	if !has {
		return api.OK
	}
	return w.putWord('i', api.Arg{Kind: api.ArgId, N: n})
}

// mayStand says whether an argument is of its letter's kind, and has no more than such arguments have.
func mayStand(letter byte, a api.Arg) bool {
	if letter == 0 || a.Kind != grammar.Kind(letter) {
		return false
	}
	if a.Kind == api.ArgText {
		return a.N == 0
	}
	return a.S == ""
}

// putter is that one of a writer's methods which puts arguments of a kind into words.
func (w *writer) putter(kind uint8) func(byte, api.Arg) api.Errno {
	switch kind {
	case api.ArgText:
		return w.putText
	default:
		return w.putWord
	}
}

// putWord puts an argument that is one word.
func (w *writer) putWord(letter byte, a api.Arg) api.Errno {
	if e := w.fault(letter, a.N); e != api.OK {
		return e
	}
	w.add(1, a.N)
	return api.OK
}

// putText puts a text.
func (w *writer) putText(_ byte, a api.Arg) api.Errno {
	l, e := words.OfText(a.S)
	if e == api.ErrNul {
		return e
	}
	// A text that is too large by itself has no words here, but is counted: that an instruction has too many is told behind all other faults.
	w.add(words.Room(a.S), l...)
	return api.OK
}

// add adds so many words. Once there are too many they are only counted: none of them will be answered.
func (w *writer) add(count int, l ...uint32) {
	w.count += count
	if w.count <= api.MaxCount {
		w.words = append(w.words, l...)
	}
}
