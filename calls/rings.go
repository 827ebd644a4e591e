package calls

import "slices"

// search goes from function to function by rows, and comes to each one once at most.
type search struct {
	next [][]int
	came set
}

// searchOf is one that came to none yet.
func searchOf(next [][]int) search { return search{next: next, came: make(set, len(next))} }

// from are the functions to which it comes from one, each behind all to which it comes from there.
func (s search) from(i int) []int {
	var left []int
	var come func(i int)
	come = func(i int) {
		if s.came[i] {
			return
		}
		s.came[i] = true
		for _, j := range s.next[i] {
			come(j)
		}
		left = append(left, i)
	}
	come(i)
	return left
}

// behind are all functions; where they do not go round each stands behind those that it calls.
func behind(calls [][]int) []int {
	s := searchOf(calls)
	var all []int
	for i := range calls {
		all = append(all, s.from(i)...)
	}
	return all
}

// rings are numbers of functions: two have the same one just if each of them reaches the other.
type rings []int

// ringsOf finds them by two searches: what one leaves late begins the other, which goes from the called to the callers. So it takes no longer where very many functions go round.
func ringsOf(calls [][]int) rings {
	r := make(rings, len(calls))
	s := searchOf(turned(calls))
	for _, i := range slices.Backward(behind(calls)) {
		for _, j := range s.from(i) {
			r[j] = i
		}
	}
	return r
}

// around says whether a call of j that stands in i goes round.
func (r rings) around(i, j int) bool { return r[i] == r[j] }

// callAround says whether one of the calls does.
func (r rings) callAround(calls [][]int) bool {
	for i, l := range calls {
		if slices.ContainsFunc(l, func(j int) bool { return r.around(i, j) }) {
			return true
		}
	}
	return false
}
