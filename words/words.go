// Package words is layer 1: bytes and words of 32 bits, and texts that lie in words. See shared/doc/01-words.md.
package words

import (
	"strings"

	"intaglio/api"
)

// wordBytes is how many bytes a word stands for.
const wordBytes = 4

// Split parts bytes into words.
func Split(b []byte) ([]uint32, api.Errno) {
	if len(b) > wordBytes*api.MaxWords {
		return nil, api.ErrLarge
	}
	if len(b)%wordBytes != 0 {
		return nil, api.ErrLength
	}
	w := make([]uint32, len(b)/wordBytes)
	for i, c := range b {
		w[i/wordBytes] |= atPlace(c, i%wordBytes)
	}
	return w, api.OK
}

// Join is the bytes of words.
func Join(w []uint32) []byte {
	b := make([]byte, 0, wordBytes*len(w))
	for _, x := range w {
		for place := range wordBytes {
			b = append(b, byteAt(x, place))
		}
	}
	return b
}

// Turned is a word with its bytes the other way round.
func Turned(x uint32) uint32 {
	var turned uint32
	for place := range wordBytes {
		turned |= atPlace(byteAt(x, place), wordBytes-1-place)
	}
	return turned
}

// Text is the text at the front of words, and how many words it takes.
func Text(w []uint32) (string, int, api.Errno) {
	last, place, found := textEnd(w)
	if !found {
		return "", 0, api.ErrText
	}
	// The byte at place is 0, so that what is left of the word is 0 just if the bytes behind it are.
	if w[last]>>(8*place) != 0 {
		return "", 0, api.ErrPad
	}
	b := Join(w[:last+1])
	return string(b[:wordBytes*last+place]), last + 1, api.OK
}

// textEnd finds the first byte 0: the word in which it is, and its place there.
func textEnd(w []uint32) (last, place int, found bool) {
search:
	for i, x := range w {
		for p := range wordBytes {
			if byteAt(x, p) == 0 {
				last, place, found = i, p, true
				break search
			}
		}
	}
	return last, place, found
}

// OfText is a text as words.
func OfText(s string) ([]uint32, api.Errno) {
	if strings.IndexByte(s, 0) >= 0 {
		return nil, api.ErrNul
	}
	if Room(s) > api.MaxCount {
		return nil, api.ErrLarge
	}
	w := make([]uint32, Room(s))
	for i := range len(s) {
		w[i/wordBytes] |= atPlace(s[i], i%wordBytes)
	}
	return w, api.OK
}

// Room is how many words a text takes.
func Room(s string) int { return len(s)/wordBytes + 1 }

// byteAt is the byte of a word at a place, the lowest one at 0.
func byteAt(x uint32, place int) byte { return byte(x >> (8 * place)) }

// atPlace is a word that has a byte at a place, and else bytes 0.
func atPlace(c byte, place int) uint32 { return uint32(c) << (8 * place) }
