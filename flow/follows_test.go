package flow

import (
	"slices"
	"testing"

	"intaglio/api"
	"intaglio/code"
	"intaglio/graph"
	"intaglio/ids"
	"intaglio/layout"
)

// holdGraphs says whether a module's ids are sound, and all its functions have graphs, so that the rules are asked.
func holdGraphs(t *testing.T, m api.Module) {
	t.Helper()
	functions, s := layout.Cut(m)
	if s.Err == api.OK {
		s = ids.Check(m)
	}
	for _, f := range functions {
		if s.Err == api.OK {
			_, _, s = graph.New(m, f)
		}
	}
	if s.Err != api.OK {
		t.Fatalf("not asked: %v, of %v", s, m)
	}
}

// P19.1 to P19.3: modules made by chance, held against the chapter's words.
func TestByChance(t *testing.T) {
	d := dice(191)
	faults, broken := map[api.Errno]int{}, map[int]int{}
	for n := range 1200 {
		m := d.module([]int{0, 12, 40}[n%3])
		holdGraphs(t, m)
		o := holdSaid(t, m, 50+n%50)
		faults[o.fault.Err]++
		if n%3 == 0 && o.fault.Err != api.OK {
			t.Fatalf("Check: %v, of what flows, %v", o.fault, m)
		}
		for _, s := range o.l {
			for b, block := range s.f.Blocks {
				if at := o.fault.At; o.fault.Err != api.OK && block.From <= at && at < block.To {
					for _, rule := range s.rules(b, at) {
						broken[rule]++
					}
				}
			}
		}
	}
	for _, e := range []api.Errno{api.OK, api.ErrScope, api.ErrPhi, api.ErrUse} {
		if faults[e] < 30 {
			t.Errorf("%d of the error %d", faults[e], e)
		}
	}
	for rule := 1; rule <= 4; rule++ {
		if broken[rule] < 20 {
			t.Errorf("the rule %d does not hold %d times", rule, broken[rule])
		}
	}
}

// walker goes from a function's first block on, by chance, and knows what has been made.
type walker struct {
	*dice
	saying
	made map[uint32]bool
}

// block goes through a block to which the walk came from another one (-1: none); it answers how many of the function's ids were named, and the first instruction that named what was not made.
func (w *walker) block(from, b int) (count int, missed api.Spot) {
	block := w.f.Blocks[b]
	// What phis take is asked at the parent's end, ahead of what any of them makes.
	at := block.From + 1
	for ; w.m.Insts[at].Op == opPhi; at++ {
		for k, a := range w.m.Insts[at].Args {
			if k%2 == 0 && w.m.Insts[at].Args[k+1].N == w.f.Blocks[from].Label && !w.names(a.N, &count) {
				return count, spot(api.ErrUse, at)
			}
		}
	}
	for lesser := block.From; lesser < at; lesser++ {
		w.made[w.m.Insts[lesser].Result] = true
	}
	for ; at < block.To; at++ {
		for _, id := range code.Ids(w.m.Insts[at]) {
			if !w.names(id, &count) {
				return count, spot(api.ErrUse, at)
			}
		}
		w.made[w.m.Insts[at].Result] = true
	}
	return count, api.Spot{}
}

// names counts an id that is one of the function's; it answers false, if that has not been made.
func (w *walker) names(id uint32, count *int) bool {
	if !slices.Contains(w.ids, id) {
		return true
	}
	*count++
	return w.made[id]
}

// P19.4: on each way from the first block on what is named has been made.
func TestMadeOnEachWay(t *testing.T) {
	d := dice(192)
	named, phis, missed := 0, 0, 0
	for n := range 600 {
		m := d.module([]int{0, 0, 40}[n%3])
		flows := Check(m).Err == api.OK
		for _, s := range sayings(m) {
			for range 12 {
				w := walker{dice: &d, saying: s, made: map[uint32]bool{}}
				for _, id := range s.params {
					w.made[id] = true
				}
				from, b := -1, 0
				for range 30 {
					count, fault := w.block(from, b)
					named += count
					if fault.Err != api.OK {
						missed++
						if flows {
							t.Fatalf("at %d an id is named that was not made, of %v", fault.At, m)
						}
						break
					}
					if from >= 0 && m.Insts[s.f.Blocks[b].From+1].Op == opPhi {
						phis++
					}
					if len(s.next[b]) == 0 {
						break
					}
					from, b = b, s.next[b][d.below(len(s.next[b]))]
				}
			}
		}
	}
	if named < 50000 || phis < 5000 || missed < 100 {
		t.Errorf("%d ids named, %d blocks with phis, %d ids not made", named, phis, missed)
	}
}

// P19.4: in a function's first block only parameters are wanted still.
func TestFirstBlock(t *testing.T) {
	d := dice(193)
	wanted := 0
	for n := range 1500 {
		m := d.module([]int{0, 0, 100}[n%3])
		if Check(m).Err != api.OK {
			continue
		}
		for _, s := range sayings(m) {
			l, fault := Live(m, s.f.Blocks[0].Label)
			if fault.Err != api.OK {
				t.Fatalf("Live: %v", fault)
			}
			for _, id := range l {
				if wanted++; !slices.Contains(s.params, id) {
					t.Fatalf("Live of a first block: %v, of %v", l, m)
				}
			}
		}
	}
	if wanted < 500 {
		t.Errorf("%d parameters are wanted", wanted)
	}
}

// P19.4: what is wanted still where a block begins is so where each block ahead of it begins, or made in that; what a phi asks of one parent is so there alone.
func TestWantedAhead(t *testing.T) {
	d := dice(194)
	wanted, made, asked, apart := 0, 0, 0, 0
	for n := range 600 {
		m := d.module([]int{0, 0, 100}[n%3])
		if Check(m).Err != api.OK {
			continue
		}
		for _, s := range sayings(m) {
			var live [][]uint32
			for _, b := range s.f.Blocks {
				l, _ := Live(m, b.Label)
				live = append(live, l)
			}
			for ahead, next := range s.next {
				own := s.own[ahead]
				for _, b := range next {
					for _, id := range live[b] {
						wanted++
						if slices.Contains(own, id) {
							made++
						} else if !slices.Contains(live[ahead], id) {
							t.Fatalf("%d is wanted in the block %d, not in %d, of %v", id, b, ahead, m)
						}
						if slices.Contains(s.own[b], id) {
							t.Fatalf("%d is wanted where it is made, of %v", id, m)
						}
					}
					a, o := holdPhis(t, s, live, ahead, b)
					asked, apart = asked+a, apart+o
				}
			}
		}
	}
	if wanted < 5000 || made < 1000 || asked < 1000 || apart < 100 {
		t.Errorf("%d wanted, %d of them made, %d asked by phis, %d not by others", wanted, made, asked, apart)
	}
}

// holdPhis says whether what the phis of a block take from a block ahead is wanted there, or made; it answers how much is, and how much of it is not wanted of the other blocks ahead.
func holdPhis(t *testing.T, s saying, live [][]uint32, ahead, b int) (asked, apart int) {
	t.Helper()
	block := s.f.Blocks[b]
	for at := block.From; at < block.To; at++ {
		i := s.m.Insts[at]
		for k := 0; i.Op == opPhi && k < len(i.Args); k += 2 {
			id := i.Args[k].N
			if !slices.Contains(s.ids, id) {
				continue
			}
			if i.Args[k+1].N == s.f.Blocks[ahead].Label {
				asked++
				if !slices.Contains(live[ahead], id) && !slices.Contains(s.own[ahead], id) {
					t.Fatalf("%d is taken from the block %d, not wanted there, of %v", id, ahead, s.m)
				}
			} else if !slices.Contains(live[ahead], id) && !slices.Contains(s.own[ahead], id) {
				apart++
			}
		}
	}
	return asked, apart
}

// P19.4: renamed, a module flows just if it does; and all that is answered is the same, but for the ids.
func TestRenamed(t *testing.T) {
	d := dice(195)
	count := map[api.Errno]int{}
	for n := range 300 {
		m := d.module([]int{0, 30}[n%2])
		to := d.renaming(m.Bound)
		other, s := ids.Rename(m, to)
		if s.Err != api.OK {
			t.Fatalf("Rename: %v", s)
		}
		numbered, _ := ids.Renumber(m)
		fault := Check(m)
		count[fault.Err]++
		if a, b := Check(other), Check(numbered); a != fault || b != fault {
			t.Fatalf("Check: %v, %v, %v", fault, a, b)
		}
		for id := range m.Bound {
			if (int(id)+n)%3 != 0 {
				continue
			}
			want, s := Live(m, id)
			for k, i := range want {
				want[k] = to[i]
			}
			slices.Sort(want)
			if l, fault := Live(other, to[id]); !slices.Equal(l, want) || fault != s {
				t.Fatalf("Live of %d: %v, %v; not %v, %v", to[id], l, fault, want, s)
			}
			for range 4 {
				at := d.below(len(m.Insts))
				want, s := Seen(m, id, at)
				if is, fault := Seen(other, to[id], at); is != want || fault != s {
					t.Fatalf("Seen of %d at %d: %v, %v; not %v, %v", to[id], at, is, fault, want, s)
				}
			}
		}
	}
	if count[api.OK] < 100 || count[api.ErrUse] < 20 || count[api.ErrScope] < 10 || count[api.ErrPhi] < 10 {
		t.Errorf("%v", count)
	}
}

// P19.1, P19.3: an instruction that is no phi names only what Seen says of its place, where a module flows; and one that names what Seen says it may not does not flow.
func TestSeenIsWhatFlows(t *testing.T) {
	d := dice(196)
	may, mayNot := 0, 0
	for range 600 {
		m := d.module(0)
		at := d.below(len(m.Insts))
		i := m.Insts[at]
		if !inBlock(m, at) || i.Op == opPhi {
			continue
		}
		for _, id := range code.Ids(i) {
			if is, s := Seen(m, id, at); !is || s != (api.Spot{}) {
				t.Fatalf("Seen of %d at %d: %v, %v, of %v", id, at, is, s, m)
			}
		}
		if i.Op != 83 && i.Op != 62 && i.Op != 167 {
			continue
		}
		for id := uint32(1); id < m.Bound; id++ {
			other := copyOf(m)
			other.Insts[at].Args[0].N = id
			s := Check(other)
			is, _ := Seen(m, id, at)
			if is {
				may++
			} else {
				mayNot++
			}
			if is != (s.Err == api.OK) || !is && s.At != at {
				t.Fatalf("Seen of %d at %d: %v; Check: %v, of %v", id, at, is, s, other)
			}
		}
	}
	if may < 2000 || mayNot < 2000 {
		t.Errorf("%d may be named, %d may not", may, mayNot)
	}
}
