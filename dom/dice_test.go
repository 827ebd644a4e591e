package dom

// dice are numbers that look like chance, and are the same at every run.
type dice uint64

// below is a number below n.
func (d *dice) below(n int) int {
	*d = *d*6364136223846793005 + 1442695040888963407
	return int(uint64(*d)>>33) % n
}

// anyEdges are those of a graph of n nodes, most with few, some with many, some told twice.
func (d *dice) anyEdges(n int) [][]int {
	next := make([][]int, n)
	for i := range next {
		for range d.below(4) * d.below(3) {
			next[i] = append(next[i], d.below(n))
		}
		if d.below(20) == 0 {
			next[i] = append(next[i], next[i]...)
		}
	}
	return next
}

// fewEdges are those of a graph in which most nodes are reached, by few ways.
func (d *dice) fewEdges(n int) [][]int {
	next := make([][]int, n)
	for i := 1; i < n; i++ {
		from := max(0, i-1-d.below(3))
		next[from] = append(next[from], i)
	}
	for range d.below(1 + n/2) {
		from := d.below(n)
		next[from] = append(next[from], d.below(n))
	}
	return next
}

// upwards are edges that all lead from lesser to greater numbers.
func (d *dice) upwards(n int) [][]int {
	next := make([][]int, n)
	for i := range n - 1 {
		for range d.below(4) {
			next[i] = append(next[i], i+1+d.below(min(6, n-1-i)))
		}
	}
	return next
}

// ring are edges from neighbour to neighbour, both ways, with a few ways in from the node 0.
func (d *dice) ring(n int) [][]int {
	next := make([][]int, n)
	for i := 1; i < n; i++ {
		if i > 1 {
			next[i] = append(next[i], i-1)
		}
		if i < n-1 {
			next[i] = append(next[i], i+1)
		}
		if d.below(9) == 0 {
			next[i] = append(next[i], i)
		}
	}
	for range 1 + d.below(3) {
		next[0] = append(next[0], d.below(n))
	}
	return next
}

// mixed are the same edges between nodes of other numbers, the first one but itself.
func (d *dice) mixed(next [][]int) [][]int {
	to := make([]int, len(next))
	for i := range to {
		to[i] = i
	}
	for i := len(to) - 1; i > 1; i-- {
		k := 1 + d.below(i)
		to[i], to[k] = to[k], to[i]
	}
	other := make([][]int, len(next))
	for i, l := range next {
		for _, k := range l {
			other[to[i]] = append(other[to[i]], to[k])
		}
	}
	return other
}

// edges are those of a graph of some kind, of at most so many nodes.
func (d *dice) edges(most int) [][]int {
	kind := []func(int) [][]int{d.anyEdges, d.fewEdges, d.fewEdges, d.upwards, d.ring}[d.below(5)]
	next := kind(1 + d.below(most))
	if d.below(2) == 0 {
		return d.mixed(next)
	}
	return next
}
