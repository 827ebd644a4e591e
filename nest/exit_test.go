package nest

import (
	"testing"

	"intaglio/api"
)

// P16.1: ErrExit: an edge into a construct, but not to its head. An edge from elsewhere into what a head dominates can lead to that head alone, so it is one from what its To dominates.
func TestExitInto(t *testing.T) {
	// From behind a loop: to its head, into it, to where it goes on.
	l := merges(no, loop(4, 3), no, no, no)
	for to, want := range [][]api.Flaw{
		1: flaws(flaw(1, back), flaw(4, back)),
		2: flaws(flaw(4, exit)),
		3: flaws(flaw(4, exit)),
	} {
		if to > 0 {
			holdFlaws(t, edges(row(1), row(2), row(3), row(1), row(to)), l, want...)
			holdFlaws(t, edges(row(1), row(2, 4), row(3), row(1), row(to)), l, want...)
		}
	}
	// To a head of another construct within it: that is not its own head.
	holdFlaws(t, edges(row(1), row(2), row(3), row(1), row(2)), merges(no, loop(4, 3), sel(3), no, no), flaw(2, merge), flaw(4, exit))
	holdFlaws(t, edges(row(1), row(2), row(), row(1), row(2), row()), merges(no, loop(4, 3), sel(5), no, no, no), flaw(4, exit))
	// From behind a selection, a switch.
	for _, m := range merges(sel(3), sw(3)) {
		holdFlaws(t, edges(row(1, 2), row(3), row(), row(2)), merges(m, no, no, no), flaw(3, exit))
		holdFlaws(t, edges(row(1, 2), row(3), row(), row(1)), merges(m, no, no, no), flaw(1, back), flaw(3, back), flaw(3, exit))
		holdFlaws(t, edges(row(1, 2), row(3), row(), row(0)), merges(m, no, no, no), flaw(3, back))
	}
	// Into an inner construct from right behind it, and from behind the outer one.
	holdFlaws(t, edges(row(1, 4), row(3, 2), row(3), row(), row()), merges(sel(4), sel(2), no, no, no), flaw(2, exit))
	holdFlaws(t, edges(row(1), row(2), row(6, 3), row(4), row(1), row(6), row(3)), merges(no, loop(5, 4), sel(3), no, no, no, no), flaw(2, merge), flaw(2, exit), flaw(5, exit))
	// One that leads on, and one that leads in.
	holdFlaws(t, edges(row(1, 2), row(3), row(), row(4, 2), row()), merges(sel(3), no, no, sel(4), no), flaw(3, exit))
	// To the head of a construct that lies beside: that is allowed.
	holdFlaws(t, edges(row(1, 2), row(2), row(3, 4), row(4), row(5), row()), merges(sel(5), no, sel(4), no, no, no))
}

// P16.1: ErrExit: out of a selection, a switch, or both; x is where the inner one leads.
func TestExitSelections(t *testing.T) {
	inner := func(x int) [][]int { return edges(row(1, 5), row(2, 3), row(x), row(4), row(5), row()) }
	for _, c := range []struct {
		outer, inner api.Merge
		x            int
		want         []api.Flaw
	}{
		{sel(5), sel(4), 4, nil},
		{sel(5), sel(4), 3, nil},
		{sel(5), sel(4), 5, flaws(flaw(2, exit))},
		{sel(5), sw(4), 5, flaws(flaw(2, exit))},
		{sw(5), sel(4), 5, nil},
		{sw(5), sw(4), 5, flaws(flaw(2, exit))},
		{sw(5), sw(4), 4, nil},
		{sel(5), sel(4), 1, flaws(flaw(2, back))},
		{sel(5), sel(4), 0, flaws(flaw(2, back), flaw(2, exit))},
		{sw(5), sw(4), 0, flaws(flaw(2, back), flaw(2, exit))},
	} {
		holdFlaws(t, inner(c.x), merges(c.outer, c.inner, no, no, no, no), c.want...)
	}
	// To what lies beside the inner one, within the outer one.
	for _, m := range merges(sel(6), sw(6)) {
		holdFlaws(t, edges(row(1, 5), row(2, 3), row(5), row(4), row(6), row(6), row()), merges(m, sel(4), no, no, no, no, no), flaw(2, exit))
		holdFlaws(t, edges(row(1, 5), row(2, 3), row(4), row(5), row(6), row(6), row()), merges(m, sw(4), no, no, no, no, no), flaw(3, exit))
		// From behind the inner one that leaves nothing.
		holdFlaws(t, edges(row(1, 5), row(2, 3), row(4), row(4), row(5), row(6), row()), merges(m, sel(4), no, no, no, no, no))
	}
}

// P16.1: ErrExit: a selection, a switch, a loop within a loop; x is where what is within it leads.
func TestExitLoops(t *testing.T) {
	twice := flaws(flaw(1, back), flaw(3, back), flaw(3, exit))
	one := flaws(flaw(3, exit))
	for _, c := range []struct {
		m    api.Merge
		x    int
		want []api.Flaw
	}{
		{sel(5), 5, nil}, {sel(5), 4, nil}, {sel(5), 7, nil}, {sel(5), 6, nil}, {sel(5), 1, twice}, {sel(5), 2, flaws(flaw(3, back))},
		{sw(5), 5, nil}, {sw(5), 4, nil}, {sw(5), 7, one}, {sw(5), 6, nil}, {sw(5), 1, twice}, {sw(5), 2, flaws(flaw(3, back))},
	} {
		holdFlaws(t, edges(row(1), row(2), row(3, 4), row(c.x), row(5), row(6), row(1), row()), merges(no, loop(7, 6), c.m, no, no, no, no, no), c.want...)
	}
	for x, want := range [][]api.Flaw{1: twice, 2: flaws(flaw(2, back), flaw(3, back)), 3: flaws(flaw(3, back)), 4: nil, 5: nil, 6: one, 7: one} {
		if x > 0 {
			holdFlaws(t, edges(row(1), row(2), row(3), row(x), row(2), row(6), row(1), row()), merges(no, loop(7, 6), loop(5, 4), no, no, no, no, no), want...)
		}
	}
}

// P16.1: ErrExit: a head's own edges leave its construct, too; those from behind it do not.
func TestExitHeads(t *testing.T) {
	for _, c := range []struct {
		m    api.Merge
		x    int
		want []api.Flaw
	}{
		{sel(5), 5, nil}, {sel(5), 7, nil}, {sel(5), 6, nil},
		{sw(5), 5, nil}, {sw(5), 7, flaws(flaw(2, exit))}, {sw(5), 6, nil},
		{loop(5, 4), 5, nil}, {loop(5, 4), 7, flaws(flaw(2, exit))}, {loop(5, 4), 6, flaws(flaw(2, exit))}, {loop(5, 4), 4, nil},
	} {
		holdFlaws(t, edges(row(1), row(2), row(3, c.x), row(4), row(), row(6), row(1), row()), merges(no, loop(7, 6), c.m, no, no, no, no, no), c.want...)
	}
	for _, x := range row(6, 7) {
		holdFlaws(t, edges(row(1), row(2), row(3), row(5), row(), row(x), row(1), row()), merges(no, loop(7, 6), sw(5), no, no, no, no, no))
	}
	// Out of the part that goes on.
	holdFlaws(t, edges(row(1), row(2), row(3), row()), merges(no, loop(3, 2), no, no))
	holdFlaws(t, edges(row(1), row(2), row(4, 5), row(), row(1), row(3)), merges(no, loop(3, 2), sel(4), no, no, no))
	holdFlaws(t, edges(row(1), row(2), row(4, 5), row(), row(1), row(3)), merges(no, loop(3, 2), sw(4), no, no, no), flaw(5, exit))
}

// P16.1: ErrExit: where the loop goes on beside its construct, an edge there leaves it.
func TestExitToContinue(t *testing.T) {
	holdFlaws(t, edges(row(1, 2), row(2), row(), row(), row()), merges(sel(4), loop(3, 2), no, no, no), flaw(1, merge), flaw(1, exit))
	holdFlaws(t, edges(row(1, 2), row(3), row(), row(), row()), merges(sel(4), loop(3, 2), no, no, no), flaw(1, merge))
	// Where it ends and goes on at one node it ends there.
	holdFlaws(t, edges(row(1), row(2), row()), merges(no, loop(2, 2), no), flaw(1, merge))
	// Where it goes on at its head the head is in it, unless its end dominates it.
	holdFlaws(t, edges(row(1), row(2), row(1), row()), merges(no, loop(3, 1), no, no))
	holdFlaws(t, edges(row(1), row(2), row(1)), merges(no, loop(0, 1), no), flaw(1, merge))
}

// P16.1: ErrExit: three constructs within one another, of all kinds; the node 4 is within all of them, and leads to each one's To (5 is the innermost one's), or to where each goes on, if it is a loop (8 is the innermost one's).
func TestExitThree(t *testing.T) {
	kinds := []uint8{api.MergeSelection, api.MergeSwitch, api.MergeLoop}
	for code := range 27 {
		// The kinds from the innermost one on.
		k := []uint8{kinds[code%3], kinds[code/3%3], kinds[code/9]}
		l := nos(11)
		for in, kind := range k {
			l[3-in] = api.Merge{Kind: kind, To: 5 + in, Continue: 8 + in}
		}
		// Where a break leads, and where it is gone on with the loop.
		broken, on := 0, 0
		for in := 2; in >= 0; in-- {
			if k[in] != api.MergeSelection {
				broken = 5 + in
			}
			if k[in] == api.MergeLoop {
				on = 8 + in
			}
		}
		for to := 5; to < 11; to++ {
			if to >= 8 && k[to-8] != api.MergeLoop {
				continue
			}
			next := edges(row(1), row(2), row(3), row(4), row(to), nil, nil, nil, nil, nil, nil)
			if to == 5 || to == broken || to == on {
				holdFlaws(t, next, l)
			} else {
				holdFlaws(t, next, l, flaw(4, exit))
			}
		}
	}
}
