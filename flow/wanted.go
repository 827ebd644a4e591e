package flow

import (
	"iter"

	"intaglio/api"
	"intaglio/code"
)

// wishes are what is wanted where a function's blocks begin, as far as it is known.
type wishes struct {
	*body
	makes  []set // what each block makes
	wanted []set // what is wanted where it begins
	fresh  []set // what of this the blocks ahead of it were not told yet
}

// wantedAt are the ids that are wanted still where a block begins.
func (b *body) wantedAt(block int) set {
	n := len(b.blocks)
	w := wishes{body: b, makes: newSets(n), wanted: newSets(n), fresh: newSets(n)}
	// What is wanted there hangs on those alone to which ways lead from there.
	order := b.behind(block)
	uses := newSets(n)
	for _, i := range order {
		w.read(i, uses)
	}
	for _, i := range order {
		w.ask(i, uses[i])
	}
	w.settle(order)
	return w.wanted[block]
}

// behind are the blocks to which ways lead from one, each behind those to which it leads, where they do not lead round.
func (b *body) behind(block int) []int {
	came := make([]bool, len(b.blocks))
	var l []int
	var come func(i int)
	come = func(i int) {
		came[i] = true
		for _, k := range b.graph.Next(i) {
			if !came[k] {
				come(k)
			}
		}
		l = append(l, i)
	}
	come(block)
	return l
}

// read notes what a block makes, and what it uses; what its phis take is used by the blocks ahead.
func (w *wishes) read(i int, uses []set) {
	// The label, which comes first, names nothing, and is none of the function's ids.
	for at := w.blocks[i].From + 1; at < w.blocks[i].To; at++ {
		p := w.Insts[at]
		if p.Result != 0 {
			w.makes[i].add(p.Result)
		}
		if p.Op == opPhi {
			for value, parent := range pairs(p) {
				w.use(value, uses[w.makers[parent].block])
			}
			continue
		}
		for _, id := range code.Ids(p) {
			w.use(id, uses[i])
		}
	}
}

// use puts an id among those that are used, if it is one of the function's.
func (w *wishes) use(id uint32, uses set) {
	if _, is := w.own(id); is {
		uses.add(id)
	}
}

// ask says that ids are wanted where a block begins, but for those that it makes.
func (w *wishes) ask(i int, ids set) { w.wanted[i].grow(ids, w.makes[i], w.fresh[i]) }

// settle tells the blocks ahead what is wanted, and goes round until nothing is new.
func (w *wishes) settle(order []int) {
round:
	for {
		for _, i := range order {
			fresh := w.fresh[i]
			if len(fresh) == 0 {
				continue
			}
			w.fresh[i] = set{}
			for _, k := range w.graph.Ahead(i) {
				w.ask(k, fresh)
			}
		}
		for _, i := range order {
			if len(w.fresh[i]) > 0 {
				continue round
			}
		}
		return
	}
}

// pairs goes over the values of a phi, each with the parent behind it.
func pairs(phi api.Inst) iter.Seq2[uint32, uint32] {
	return func(yield func(uint32, uint32) bool) {
		for k := 0; k < len(phi.Args); k += 2 {
			if !yield(phi.Args[k].N, phi.Args[k+1].N) {
				return
			}
		}
	}
}
