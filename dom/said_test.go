package dom

import "slices"

// What the chapter says, said once more: slowly, and by other means.

// saidWithout says of each node whether a way leads to it that does not come by a node; by -1 none comes.
func saidWithout(next [][]int, but int) []bool {
	come := make([]bool, len(next))
	if but == 0 {
		return come
	}
	come[0] = true
	left := row(0)
	for len(left) > 0 {
		i := left[0]
		left = left[1:]
		for _, to := range next[i] {
			if to != but && !come[to] {
				come[to] = true
				left = append(left, to)
			}
		}
	}
	return come
}

// saidDominates says of each two nodes whether the first one dominates the second one.
func saidDominates(next [][]int) [][]bool {
	reached := saidWithout(next, -1)
	var all [][]bool
	for a := range next {
		without := saidWithout(next, a)
		l := make([]bool, len(next))
		for b := range l {
			l[b] = reached[b] && !without[b]
		}
		all = append(all, l)
	}
	return all
}

// saidNearest is that one of some nodes which all others of them dominate; false, if there is none.
func saidNearest(dominates [][]bool, some []int) (int, bool) {
	for _, i := range some {
		if !slices.ContainsFunc(some, func(o int) bool { return !dominates[o][i] }) {
			return i, true
		}
	}
	return 0, false
}

// saidAbove are the nodes that dominate a node, but those of which a function says so.
func saidAbove(dominates [][]bool, i int, but func(a int) bool) []int {
	var l []int
	for a := range dominates {
		if dominates[a][i] && !but(a) {
			l = append(l, a)
		}
	}
	return l
}

// saidUp are the nodes that dominate a node, by how many dominate them, most first.
func saidUp(dominates [][]bool, i int) []int {
	none := func(int) bool { return false }
	l := saidAbove(dominates, i, none)
	slices.SortFunc(l, func(a, b int) int { return len(saidAbove(dominates, b, none)) - len(saidAbove(dominates, a, none)) })
	return l
}

// saidFrontier is the frontier of a node.
func saidFrontier(next [][]int, dominates [][]bool, a int) []int {
	var l []int
	for b := range next {
		leads := false
		for from := range next {
			leads = leads || dominates[a][from] && slices.Contains(next[from], b)
		}
		if leads && !(dominates[a][b] && a != b) {
			l = append(l, b)
		}
	}
	return l
}

// saidBacks are the edges back.
func saidBacks(next [][]int, dominates [][]bool) [][2]int {
	var l [][2]int
	for from := range next {
		for to := range next {
			if slices.Contains(next[from], to) && dominates[to][from] {
				l = append(l, [2]int{from, to})
			}
		}
	}
	return l
}

// saidAnswers are all answers of the tree of the graph of these edges.
func saidAnswers(next [][]int) answers {
	dominates := saidDominates(next)
	a := answers{dominates: dominates, backs: saidBacks(next, dominates), under: make([][]int, len(next))}
	for i := range next {
		strictly := saidAbove(dominates, i, func(o int) bool { return o == i })
		over, is := saidNearest(dominates, strictly)
		if is {
			a.under[over] = append(a.under[over], i)
		} else {
			over = -1
		}
		depth := len(strictly)
		if !dominates[i][i] {
			depth = -1
		}
		a.over, a.depth = append(a.over, over), append(a.depth, depth)
		a.up = append(a.up, saidUp(dominates, i))
		a.frontier = append(a.frontier, saidFrontier(next, dominates, i))
		nears := make([]near, len(next))
		for k := range next {
			nears[k].node, nears[k].is = saidNearest(dominates, saidAbove(dominates, i, func(o int) bool { return !dominates[o][k] }))
		}
		a.near = append(a.near, nears)
	}
	return a
}

// saidWays says the same as saidDominates, by all ways that come by no node twice: what stands on each of these stands on each way.
func saidWays(next [][]int) [][]bool {
	n := len(next)
	count := make([]int, n)        // how many ways lead to each
	stands := make([][]int, n)     // on how many of these each stands
	dominates := make([][]bool, n) // whether it is on all
	for i := range next {
		stands[i], dominates[i] = make([]int, n), make([]bool, n)
	}
	var walk func(way []int)
	walk = func(way []int) {
		last := way[len(way)-1]
		count[last]++
		for _, i := range way {
			stands[i][last]++
		}
		for to := range n {
			if slices.Contains(next[last], to) && !slices.Contains(way, to) {
				walk(append(slices.Clone(way), to))
			}
		}
	}
	walk(row(0))
	for a := range n {
		for b := range n {
			dominates[a][b] = count[b] > 0 && stands[a][b] == count[b]
		}
	}
	return dominates
}
