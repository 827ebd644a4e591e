package dom

import (
	"iter"
	"math/bits"
)

// wide is how many nodes a word of marks stands for.
const wide = 64

// marks are bits, one for each node.
type marks []uint64

// newMarks are those of so many nodes, of which none is marked.
func newMarks(n int) marks { return make(marks, (n+wide-1)/wide) }

// newRows are such marks for each of so many nodes.
func newRows(n int) []marks {
	l := make([]marks, n)
	for i := range l {
		l[i] = newMarks(n)
	}
	return l
}

// set marks a node.
func (m marks) set(i int) { m[i/wide] |= 1 << (i % wide) }

// drop takes a node's mark away.
func (m marks) drop(i int) { m[i/wide] &^= 1 << (i % wide) }

// has says whether a node is marked.
func (m marks) has(i int) bool { return m[i/wide]>>(i%wide)&1 == 1 }

// add marks what others mark, too.
func (m marks) add(others marks) {
	for at, word := range others {
		m[at] |= word
	}
}

// size is how many nodes are marked.
func (m marks) size() int {
	n := 0
	for _, word := range m {
		n += bits.OnesCount64(word)
	}
	return n
}

// least is the first node that is marked; 0, if none is.
func (m marks) least() int {
	for i := range m.rising() {
		return i
	}
	return 0
}

// rising goes over the nodes that are marked, the least first.
func (m marks) rising() iter.Seq[int] {
	return func(yield func(int) bool) {
		for at, word := range m {
			for ; word != 0; word &= word - 1 {
				if !yield(at*wide + bits.TrailingZeros64(word)) {
					return
				}
			}
		}
	}
}

// falling goes over the nodes that are marked, the greatest first; those below it that are marked meanwhile are told, too.
func (m marks) falling() iter.Seq[int] {
	return func(yield func(int) bool) {
		for at := len(m) - 1; at >= 0; at-- {
			for left := ^uint64(0); m[at]&left != 0; {
				top := bits.Len64(m[at]&left) - 1
				if !yield(at*wide + top) {
					return
				}
				left = 1<<top - 1
			}
		}
	}
}
