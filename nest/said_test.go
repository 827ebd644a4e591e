package nest

import (
	"slices"
	"testing"

	"intaglio/api"
	"intaglio/graph"
	"intaglio/ids"
)

// What the chapter says, said once more: slowly, by sets of nodes.

// saying is what the words of the chapter say of a plan.
type saying struct {
	next       [][]int // each node's Next
	merges     []api.Merge
	dominates  [][]bool // in the wide graph
	constructs [][]bool // of each head that stands: which nodes it has; of others none
}

// saidReach says to which nodes a way leads from a node that comes by no other one than such as a function allows, along edges that one allows.
func saidReach(next [][]int, from int, node func(i int) bool, edge func(from, to int) bool) []bool {
	come := make([]bool, len(next))
	if !node(from) {
		return come
	}
	come[from] = true
	left := row(from)
	for len(left) > 0 {
		i := left[0]
		left = left[1:]
		for _, to := range next[i] {
			if !come[to] && node(to) && edge(i, to) {
				come[to] = true
				left = append(left, to)
			}
		}
	}
	return come
}

// saidWide are the edges of the wide graph.
func saidWide(p plan) [][]int {
	wide := make([][]int, len(p.next))
	for i, l := range p.next {
		wide[i] = slices.Clone(l)
		if p.merges[i].Kind != 0 {
			wide[i] = append(wide[i], p.merges[i].To)
		}
		if p.merges[i].Kind == 2 {
			wide[i] = append(wide[i], p.merges[i].Continue)
		}
	}
	return wide
}

// say is what is said of a plan.
func say(p plan) saying {
	s := saying{merges: p.merges}
	for _, l := range p.next {
		var once []int
		for _, to := range l {
			if !slices.Contains(once, to) {
				once = append(once, to)
			}
		}
		s.next = append(s.next, once)
	}
	wide := saidWide(p)
	each := func(int, int) bool { return true }
	stands := saidReach(wide, 0, func(int) bool { return true }, each)
	for a := range p.next {
		without := saidReach(wide, 0, func(i int) bool { return i != a }, each)
		l := make([]bool, len(p.next))
		for b := range l {
			l[b] = stands[b] && !without[b]
		}
		s.dominates = append(s.dominates, l)
	}
	for h, m := range p.merges {
		var l []bool
		if m.Kind != 0 && s.stands(h) {
			for i := range p.next {
				l = append(l, s.dominates[h][i] && !s.dominates[m.To][i])
			}
		}
		s.constructs = append(s.constructs, l)
	}
	return s
}

// stands says whether a node does.
func (s saying) stands(i int) bool { return s.dominates[i][i] }

// has says whether a node is a head that stands, whose construct has another node.
func (s saying) has(h, i int) bool { return len(s.constructs[h]) > 0 && s.constructs[h][i] }

// all says whether the construct of a head has all nodes of that of another one.
func (s saying) all(h, other int) bool {
	for i := range s.next {
		if s.has(other, i) && !s.has(h, i) {
			return false
		}
	}
	return true
}

// around are the heads of some kinds whose constructs have a node.
func (s saying) around(i int, kinds ...uint8) []int {
	var l []int
	for h, m := range s.merges {
		if s.has(h, i) && slices.Contains(kinds, m.Kind) {
			l = append(l, h)
		}
	}
	return l
}

// innermost is the head of the construct that all others of these have; -1: there is none.
func (s saying) innermost(l []int) int {
	for _, h := range l {
		if !slices.ContainsFunc(l, func(o int) bool { return !s.all(o, h) }) {
			return h
		}
	}
	return -1
}

// outermost is the head of the construct that has all others of these.
func (s saying) outermost(l []int) int {
	for _, h := range l {
		if !slices.ContainsFunc(l, func(o int) bool { return !s.all(h, o) }) {
			return h
		}
	}
	return -1
}

// back says whether an edge is one back.
func (s saying) back(from, to int) bool {
	return s.stands(from) && slices.Contains(s.next[from], to) && s.dominates[to][from]
}

// bare says whether a node that stands breaks the first rule.
func (s saying) bare(i int) bool { return s.merges[i].Kind == 0 && len(s.next[i]) >= 2 }

// merge says whether it breaks the second one.
func (s saying) merge(i int) bool {
	m := s.merges[i]
	if m.Kind == 0 {
		return false
	}
	wrong := m.To == i || !s.dominates[i][m.To]
	for k, o := range s.merges {
		wrong = wrong || k != i && s.stands(k) && o.Kind != 0 && o.To == m.To
	}
	if m.Kind != 2 {
		return wrong
	}
	wrong = wrong || m.Continue == m.To || !s.dominates[i][m.Continue]
	for k, o := range s.merges {
		wrong = wrong || k != i && s.stands(k) && o.Kind == 2 && o.Continue == m.Continue
	}
	return wrong
}

// backs says whether it breaks the third one.
func (s saying) backs(i int) bool {
	count := 0
	for from := range s.next {
		if s.back(from, i) {
			count++
		}
	}
	if count >= 2 {
		return true
	}
	for _, v := range s.next[i] {
		if s.back(i, v) {
			if s.merges[v].Kind != 2 || !s.dominates[s.merges[v].Continue][i] {
				return true
			}
		} else if saidReach(s.next, v, func(int) bool { return true }, func(a, b int) bool { return !s.back(a, b) })[i] {
			return true
		}
	}
	return false
}

// exits says whether it breaks the fourth one.
func (s saying) exits(i int) bool {
	for _, to := range s.next[i] {
		var left []int
		for h := range s.merges {
			if s.has(h, to) && !s.has(h, i) && to != h {
				return true
			}
			if s.has(h, i) && !s.has(h, to) {
				left = append(left, h)
			}
		}
		if len(left) > 0 && !s.may(i, to, left) {
			return true
		}
	}
	return false
}

// may says whether an edge that leaves these constructs may.
func (s saying) may(from, to int, left []int) bool {
	h := s.outermost(left)
	if to == s.merges[h].To && (len(left) == 1 || h == s.innermost(s.around(from, 2, 3))) {
		return true
	}
	inner := s.innermost(s.around(from, 2))
	return inner >= 0 && to == s.merges[inner].Continue && !slices.Contains(left, inner)
}

// flaws are those of a node.
func (s saying) flaws(i int) []api.Flaw {
	var l []api.Flaw
	if !s.stands(i) {
		return nil
	}
	if s.bare(i) {
		l = append(l, flaw(i, 163))
	}
	if s.merge(i) {
		l = append(l, flaw(i, 160))
	}
	if s.backs(i) {
		l = append(l, flaw(i, 162))
	}
	if s.exits(i) {
		l = append(l, flaw(i, 161))
	}
	return l
}

// saidFlaws are those of a plan.
func saidFlaws(p plan) []api.Flaw {
	s := say(p)
	var l []api.Flaw
	for i := range p.next {
		l = append(l, s.flaws(i)...)
	}
	return l
}

// saidAnswers are all answers of a plan.
func saidAnswers(p plan) answers {
	s := say(p)
	a := answers{flaws: saidFlaws(p)}
	if len(a.flaws) > 0 {
		a.check = spot(a.flaws[0].Err, a.flaws[0].Block)
	}
	for i := range p.next {
		var nodes []int
		e := api.ErrNone
		if len(s.constructs[i]) > 0 {
			e = api.OK
		}
		for k := range p.next {
			if s.has(i, k) {
				nodes = append(nodes, k)
			}
		}
		a.constructs, a.kinds = append(a.constructs, nodes), append(a.kinds, e)
		a.inner = append(a.inner, s.innermost(s.around(i, 1, 2, 3)))
	}
	return a
}

// saidModule is what Module says: ids.Check's fault, then, function by function, graph.New's, then the first flaw.
func saidModule(t *testing.T, m api.Module) api.Spot {
	t.Helper()
	if s := ids.Check(m); s.Err != api.OK {
		return s
	}
	for _, f := range functions(t, m) {
		g, l, s := graph.New(m, f)
		if s.Err != api.OK {
			return s
		}
		p := plan{merges: l}
		for i := range g.Len() {
			p.next = append(p.next, g.Next(i))
		}
		if l := saidFlaws(p); len(l) > 0 {
			return spot(l[0].Err, f.Blocks[l[0].Block].To-1)
		}
	}
	return api.Spot{}
}
