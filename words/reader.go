package words

import (
	"slices"

	"intaglio/api"
)

// Reader takes words from the front.
type Reader struct {
	words []uint32
	at    int
}

// call is one of a reader's calls that take words.
type call int

const (
	callWord call = iota
	callText
	callTake
)

// New makes a reader of words.
func New(w []uint32) *Reader { return &Reader{words: slices.Clone(w)} }

// At is how many words were taken.
func (r *Reader) At() int {
	if r == nil {
		return 0
	}
	return r.at
}

// Left is how many are left.
func (r *Reader) Left() int {
	if r == nil {
		return 0
	}
	return len(r.words) - r.at
}

// Word takes a word.
func (r *Reader) Word() (uint32, api.Errno) {
	taken, _, e := r.take(callWord, 0)
	if e != api.OK {
		return 0, e
	}
	return taken[0], api.OK
}

// Text takes a text.
func (r *Reader) Text() (string, api.Errno) {
	_, text, e := r.take(callText, 0)
	return text, e
}

// Take takes so many words.
func (r *Reader) Take(n int) ([]uint32, api.Errno) {
	taken, _, e := r.take(callTake, n)
	return slices.Clone(taken), e
}

// take does what all the calls share, so that one place sees to it that beside an error nothing is taken.
// The words that it answers are the reader's own.
func (r *Reader) take(c call, n int) (taken []uint32, text string, e api.Errno) {
	if r == nil {
		return nil, "", api.ErrNil
	}
	left := r.words[r.at:]
	switch c {
	case callWord:
		n = 1
	case callText:
		text, n, e = Text(left)
	case callTake:
		if n < 0 {
			e = api.ErrArg
		}
	}
	if e == api.OK && n > len(left) {
		e = api.ErrEnd
	}
	if e != api.OK {
		return nil, "", e
	}
	r.at += n
	return left[:n], text, api.OK
}
