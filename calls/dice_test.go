package calls

import (
	"slices"

	"intaglio/api"
)

// dice are numbers that look like chance, and are the same at every run.
type dice uint64

// below is a number below n.
func (d *dice) below(n int) int {
	*d = *d*6364136223846793005 + 1442695040888963407
	return int(uint64(*d)>>33) % n
}

// shuffled are the numbers below n, in whatever order.
func (d *dice) shuffled(n int) []int {
	l := make([]int, n)
	for i := range l {
		k := d.below(i + 1)
		l[i] = l[k]
		l[k] = i
	}
	return l
}

// straight are rows that do not go round: each function calls such as stand behind it in some order; some of them more than once.
func (d *dice) straight(n int) [][]int {
	order := d.shuffled(n)
	next := make([][]int, n)
	many := 1 + d.below(4)
	for at, i := range order[:n-1] {
		for range d.below(many + 1) {
			next[i] = append(next[i], order[at+1+d.below(n-1-at)])
		}
		if d.below(6) == 0 {
			next[i] = append(next[i], next[i]...)
		}
	}
	return next
}

// rows are such rows, in which few calls may lead anywhere.
func (d *dice) rows(n int) [][]int {
	next := d.straight(n)
	for range d.below(4) * d.below(2) {
		i := d.below(n)
		next[i] = slices.Insert(next[i], d.below(len(next[i])+1), d.below(n))
	}
	return next
}

// body are the instructions of a function between its OpFunction and its OpFunctionEnd: blocks, and in these the calls of ids. From is the first id that it may make.
func (d *dice) body(from uint32, called []uint32) []api.Inst {
	var l []api.Inst
	for range d.below(3) {
		l = append(l, api.Inst{Op: 55, Type: 4, Result: from})
		from++
	}
	l = append(l, api.Inst{Op: 248, Result: from})
	from++
	for _, id := range called {
		args := []api.Arg{anId(id)}
		for range d.below(3) {
			args = append(args, anId([]uint32{6, 5, called[d.below(len(called))], 20}[d.below(4)]))
		}
		l = append(l, api.Inst{Op: 57, Type: 1, Result: from, Args: args})
		from++
		switch d.below(4) {
		case 0:
			l = append(l, api.Inst{Op: 249, Args: []api.Arg{anId(from)}}, api.Inst{Op: 248, Result: from})
			from++
		case 1:
			l = append(l, api.Inst{Op: 252}, api.Inst{Op: 248, Result: from})
			from++
		case 2:
			l = append(l, api.Inst{Op: 128, Type: 4, Result: from, Args: []api.Arg{anId(6), anId(6)}})
			from++
		}
	}
	return append(l, api.Inst{Op: 253})
}

// diceWide is how many ids a function of a module made by chance may make, diceBound the bound of such a module.
const (
	diceWide  = 60
	diceBound = 20 + 10*diceWide
)

// module is a module whose functions call one another by these rows; of wrong calls, if there may be any, one of some twenty calls what is no function.
func (d *dice) module(next [][]int, wrong bool) api.Module {
	m := module()
	m.Bound = diceBound
	// What is made ahead of all functions, and by the first one, is no function; that one is 20.
	none := []uint32{1, 2, 5, 6, 8, 21}
	place := func(i int) uint32 { return uint32(20 + i*diceWide) }
	for i, l := range next {
		var called []uint32
		for _, j := range l[:min(len(l), diceWide/3)] {
			id := place(j)
			if wrong && d.below(20) == 0 {
				id = none[d.below(len(none))]
			}
			called = append(called, id)
		}
		m.Insts = append(m.Insts, api.Inst{Op: 54, Type: 1, Result: place(i), Args: []api.Arg{anEnum(0), anId(2)}})
		m.Insts = append(append(m.Insts, d.body(place(i)+1, called)...), api.Inst{Op: 56})
	}
	return m
}

// renaming are the numbers of a renaming.
func (d *dice) renaming(bound uint32) []uint32 {
	to := make([]uint32, bound)
	for i := range to {
		to[i] = uint32(i)
	}
	for i := len(to) - 1; i > 1; i-- {
		k := 1 + d.below(i)
		to[i], to[k] = to[k], to[i]
	}
	return to
}
