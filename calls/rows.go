package calls

import (
	"cmp"
	"slices"
)

// isFunction says whether a number is that of a function that has its row among these.
func isFunction(i int, next [][]int) bool { return 0 <= i && i < len(next) }

// nameFunctions says whether all numbers of rows are those of functions.
func nameFunctions(next [][]int) bool {
	for _, l := range next {
		if slices.ContainsFunc(l, func(j int) bool { return !isFunction(j, next) }) {
			return false
		}
	}
	return true
}

// set says of each function whether it is in it.
type set []bool

// rising are the functions in it.
func (s set) rising() []int {
	count := 0
	for _, in := range s {
		if in {
			count++
		}
	}
	l := make([]int, 0, count)
	for i, in := range s {
		if in {
			l = append(l, i)
		}
	}
	return l
}

// onceEach are rows whose numbers stand once each, rising.
func onceEach(next [][]int) [][]int {
	rows := make([][]int, len(next))
	for i, l := range next {
		named := make(set, len(next))
		for _, j := range l {
			named[j] = true
		}
		rows[i] = named.rising()
	}
	return rows
}

// turned are the rows of those that call each function, rising.
func turned(calls [][]int) [][]int {
	// They are counted ahead, so that the rows need not grow: there may be very many calls.
	count := make([]int, len(calls))
	for _, l := range calls {
		for _, j := range l {
			count[j]++
		}
	}
	called := make([][]int, len(calls))
	for j := range called {
		called[j] = make([]int, 0, count[j])
	}
	for i, l := range calls {
		for _, j := range l {
			called[j] = append(called[j], i)
		}
	}
	return called
}

// made is the Calls of functions that do not go round.
func made(calls [][]int) *Calls {
	c := &Calls{calls: calls, called: turned(calls), deep: make([]int, len(calls))}
	for _, i := range behind(calls) {
		for _, j := range calls[i] {
			c.deep[i] = max(c.deep[i], c.deep[j]+1)
		}
		c.order = append(c.order, i)
	}
	slices.SortFunc(c.order, func(i, j int) int {
		return cmp.Or(cmp.Compare(c.deep[i], c.deep[j]), cmp.Compare(i, j))
	})
	return c
}
