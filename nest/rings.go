package nest

// ringWalk finds the nodes that lie on rings of edges none of which is an edge back. It goes by such edges alone; nodes that lie on one ring, or on rings that hang together, are a group, which is found when the walk leaves that one of them to which it came first.
type ringWalk struct {
	*judge
	found []bool // which nodes lie on rings
	came  []int  // when the walk came to each, from 1 on; 0: not yet
	least []int  // when it came to the first one that is known to be of each one's group
	open  []int  // to which it came, and whose group is not found yet
	count int    // to how many it came
}

// ringed says which nodes lie on such rings. Of what does not stand nobody asks.
func ringed(j *judge) []bool {
	n := len(j.next)
	w := ringWalk{judge: j, found: make([]bool, n), came: make([]int, n), least: make([]int, n)}
	for i := range n {
		if w.came[i] == 0 {
			w.walk(i)
		}
	}
	return w.found
}

// walk comes to a node, and goes on from there to all to which it did not come yet.
func (w *ringWalk) walk(i int) {
	w.count++
	w.came[i], w.least[i] = w.count, w.count
	w.open = append(w.open, i)
	for _, to := range w.next[i] {
		if w.isBack(i, to) {
			continue
		}
		if w.came[to] == 0 {
			w.walk(to)
		}
		w.least[i] = min(w.least[i], w.least[to])
	}
	if w.least[i] == w.came[i] {
		w.take(i)
	}
}

// take takes the group of a node: what is open from there on. A group of one lies on no ring, since an edge to itself is one back.
func (w *ringWalk) take(i int) {
	at := len(w.open) - 1
	for w.open[at] != i {
		at--
	}
	for _, k := range w.open[at:] {
		w.found[k] = at < len(w.open)-1
		// Whatever leads to it from now on is of another group.
		w.least[k] = len(w.came) + 1
	}
	w.open = w.open[:at]
}
