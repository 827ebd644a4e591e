package nest

import (
	"testing"

	"intaglio/api"
)

// smallMerges are all merges of n nodes.
func smallMerges(n int) []api.Merge {
	l := merges(no)
	for to := range n {
		l = append(l, sel(to), sw(to))
		for on := range n {
			l = append(l, loop(to, on))
		}
	}
	return l
}

// smallPlan is one of all plans of n nodes, by its number.
func smallPlan(n, code int) plan {
	var p plan
	all := smallMerges(n)
	for range n {
		var to []int
		for k := range n {
			if code>>k&1 == 1 {
				to = append(to, k)
			}
		}
		code >>= n
		p.next = append(p.next, to)
	}
	for range n {
		p.merges = append(p.merges, all[code%len(all)])
		code /= len(all)
	}
	return p
}

// P16.1, P16.2: all plans of one and of two nodes, and some of three.
func TestSmallPlans(t *testing.T) {
	for n, step := range []int{1: 1, 2: 1, 3: 37} {
		if n == 0 {
			continue
		}
		count := 1 << (n * n)
		for range n {
			count *= len(smallMerges(n))
		}
		for code := 0; code < count; code += step {
			holdPlan(t, smallPlan(n, code))
		}
	}
}

// P16.1, P16.2: plans made by chance, with enough of all that may be wrong, alone and together.
func TestByChance(t *testing.T) {
	d := dice(1601)
	count, alone := map[api.Errno]int{}, map[api.Errno]int{}
	right, several, standing, not := 0, 0, 0, 0
	for range 12000 {
		p := d.plan(14)
		l := holdPlan(t, p)
		for k, f := range l {
			count[f.Err]++
			if k > 0 && l[k-1].Block == f.Block {
				several++
			}
		}
		switch len(l) {
		case 0:
			right++
		case 1:
			alone[l[0].Err]++
		}
		s := say(p)
		for i := range p.next {
			if s.stands(i) {
				standing++
			} else {
				not++
			}
		}
	}
	for _, e := range []api.Errno{bare, merge, back, exit} {
		if count[e] < 2000 || alone[e] < 200 {
			t.Errorf("%d of the error %d, %d alone", count[e], e, alone[e])
		}
	}
	if right < 2000 || several < 2000 || standing < 20000 || not < 5000 {
		t.Errorf("%d right, %d errors beside others, %d nodes standing, %d not", right, several, standing, not)
	}
}

// P16.1, P16.2: larger plans, of more nodes than a word has bits.
func TestLargerByChance(t *testing.T) {
	d := dice(1602)
	large := 0
	for range 150 {
		p := d.mixed(d.grown(60, true))
		if len(p.next) > 64 {
			large++
		}
		holdPlan(t, p)
		holdPlan(t, d.spoiled(p))
	}
	for range 20 {
		holdPlan(t, d.anyPlan(70))
	}
	if large < 30 {
		t.Errorf("%d large ones", large)
	}
}

// P16.1: what is put together piece by piece, one within another, is well nested; whatever the numbers of its nodes.
func TestGrown(t *testing.T) {
	d := dice(1603)
	deep, heads, breaks := 0, 0, 0
	for range 2000 {
		p := d.grown(25, true)
		if d.below(2) == 0 {
			p = d.mixed(p)
		}
		holdFlaws(t, p.next, p.merges)
		if t.Failed() {
			t.Fatalf("of %v", p)
		}
		s := say(p)
		for i, l := range s.next {
			around := s.around(i, 1, 2, 3)
			deep = max(deep, len(around))
			if s.merges[i].Kind != api.MergeNone {
				heads++
			}
			for _, to := range l {
				if len(around)-len(s.around(to, 1, 2, 3)) > 1 {
					breaks++
				}
			}
		}
	}
	if deep < 5 || heads < 5000 || breaks < 500 {
		t.Errorf("%d deep, %d heads, %d edges out of several", deep, heads, breaks)
	}
}
