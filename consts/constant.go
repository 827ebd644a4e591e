package consts

// constant is a constant, as it stands in a pool. Its words are put together when they are asked for, not kept: a small module may have constants of very many words in all.
type constant struct {
	trait
	word  uint32   // of one without parts: what each of its words is
	parts []uint32 // of a composite: the ids of the constants that are its parts
}

// trait is what constants of one type and one value share; few others do.
type trait struct {
	typeId uint32
	sum    uint64
}

// variable is a variable, as it stands in a pool.
type variable struct {
	class uint32
	holds uint32 // the id of the type of what it holds
	first uint32 // the id of the constant that it holds at first; 0, if there is none
}

// base is what sums go up by, word by word: odd, and far from simple fractions of 2^64, so that short values have sums of their own.
const base = 0x9E3779B97F4A7C15

// sumOf is the sum of a value's words.
func sumOf(w []uint32) uint64 {
	sum := uint64(0)
	for _, n := range w {
		sum = sum*base + uint64(n)
	}
	return sum
}

// joined is the sum of a value, and of another one of so many words behind it: the sum of a composite is told without its words.
func joined(sum, behind uint64, words int) uint64 {
	power, by := uint64(1), uint64(base)
	for n := words; n > 0; n /= 2 {
		if n%2 == 1 {
			power *= by
		}
		by *= by
	}
	return sum*power + behind
}

// words adds the words of a constant to others; an id that is no constant has none.
func (p *Pool) words(w []uint32, id uint32) []uint32 {
	c := p.constants[id]
	for _, part := range c.parts {
		w = p.words(w, part)
	}
	if len(c.parts) > 0 {
		return w
	}
	for range p.types.Size(c.typeId) {
		w = append(w, c.word)
	}
	return w
}

// copyOf is a copy of a constant's words, as many as its type has; without a constant they stay 0.
func (p *Pool) copyOf(typeId, id uint32) []uint32 {
	w := make([]uint32, p.types.Size(typeId))
	copy(w, p.words(nil, id))
	return w
}
