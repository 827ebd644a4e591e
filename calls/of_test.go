package calls

import (
	"slices"
	"testing"

	"intaglio/api"
)

// The chapter's examples of Of.
func TestExamples(t *testing.T) {
	c := callsOf(t, rows(row(1, 2), row(2), row()))
	if c.Len() != 3 || !slices.Equal(c.Order(), row(2, 1, 0)) || c.Deep(0) != 2 || c.Deep(1) != 1 || c.Deep(2) != 0 || c.Deep(3) != -1 ||
		!slices.Equal(c.Reached(1), row(1, 2)) || !slices.Equal(c.Called(2), row(0, 1)) {
		t.Errorf("%v", asked(c))
	}
	holdRefused(t, api.ErrCycle, rows(row(0)))
	holdRefused(t, api.ErrCycle, rows(row(1), row(0)))
	holdRefused(t, api.ErrRange, rows(row(2), row()))
	for _, none := range [][][]int{nil, {}} {
		if c := callsOf(t, none); c.Len() != 0 || len(c.Order()) != 0 {
			t.Errorf("of no functions: %d, %v", c.Len(), c.Order())
		}
		holdCalls(t, callsOf(t, none), none)
	}
}

// P17.1: functions that nobody calls, and that call nobody; one, and several.
func TestOfNoCalls(t *testing.T) {
	for _, n := range row(1, 2, 5, 63, 64, 65, 130) {
		holdCalls(t, callsOf(t, make([][]int, n)), make([][]int, n))
		c := callsOf(t, make([][]int, n))
		for i := range n {
			if len(c.Calls(i)) != 0 || len(c.Called(i)) != 0 || c.Deep(i) != 0 || !slices.Equal(c.Reached(i), row(i)) || c.Order()[i] != i {
				t.Fatalf("of %d of %d: %v", i, n, asked(c))
			}
		}
	}
}

// P17.1: ErrRange of each number that is none of a function, in each row, alone and behind others.
func TestOfNoFunction(t *testing.T) {
	for _, j := range noFunctions(4) {
		for i := range 4 {
			next := rows(row(1, 2), row(3), row(3, 3), row())
			holdOf(t, next)
			next[i] = append(next[i], j)
			holdRefused(t, api.ErrRange, next)
			next[i] = slices.Insert(next[i][:len(next[i])-1], 0, j)
			holdRefused(t, api.ErrRange, next)
			next[i] = row(j)
			holdRefused(t, api.ErrRange, next)
		}
	}
	// The last one is one.
	holdOf(t, rows(row(3), row(), row(3), row()))
	// Without functions there are no rows in which a number might stand; of one each but 0 is none.
	for _, j := range noFunctions(1) {
		holdRefused(t, api.ErrRange, rows(row(j)))
	}
}

// P17.1: ErrCycle of functions that go round: by one, two and more calls; from each of them on; with others around them.
func TestOfRound(t *testing.T) {
	for _, n := range row(1, 2, 3, 4, 7, 64, 65, 200) {
		ring := make([][]int, n)
		for i := range ring {
			ring[i] = row((i + 1) % n)
		}
		holdRefused(t, api.ErrCycle, ring)
		back := make([][]int, n)
		for i := range back {
			back[i] = row((i + n - 1) % n)
		}
		holdRefused(t, api.ErrCycle, back)
		for i := range n {
			cut := apartRows(ring)
			cut[i] = nil
			holdCalls(t, callsOf(t, cut), cut)
			// Each function that calls itself goes round, whatever else there is.
			cut[i] = row(i)
			holdRefused(t, api.ErrCycle, cut)
			if n > 20 && i > 3 {
				break
			}
		}
	}
	// What leads to such functions, and what they call, is called by nobody round.
	holdRefused(t, api.ErrCycle, rows(row(1), row(2), row(3, 1), row(4), row()))
	holdRefused(t, api.ErrCycle, rows(row(), row(2), row(1)))
	holdRefused(t, api.ErrCycle, rows(row(1), row(), row(3, 1), row(1, 4), row(1, 2)))
	// Many ways that lead to one function do not go round.
	holdOf(t, rows(row(1, 2, 3), row(4), row(4), row(4), row(5), row()))
	holdOf(t, rows(row(), row(0), row(1, 0), row(2, 1, 0), row(3, 2, 1, 0)))
}

// P17.1: of several errors the first one: too many functions, then a number that is none, then functions that go round.
func TestOfSeveral(t *testing.T) {
	holdRefused(t, api.ErrRange, rows(row(0), row(7)))
	holdRefused(t, api.ErrRange, rows(row(1), row(0), row(-1)))
	holdRefused(t, api.ErrRange, rows(row(0, 1)))
	large := make([][]int, api.MaxNodes+1)
	for _, l := range [][]int{nil, row(0), row(-1), row(api.MaxNodes), row(api.MaxNodes + 1), row(0, -1)} {
		large[0] = l
		holdLarge(t, large)
		large[0] = nil
		large[api.MaxNodes] = l
		holdLarge(t, large)
		large[api.MaxNodes] = nil
	}
	holdLarge(t, make([][]int, 3*api.MaxNodes))
}

// holdLarge says whether Of refuses rows that are too many.
func holdLarge(t *testing.T, next [][]int) {
	t.Helper()
	if c, e := Of(next); e != api.ErrLarge || c != nil {
		t.Errorf("Of %d rows: %d", len(next), e)
	}
}

// P17.1, P17.3, P17.4: all calls of up to four functions.
func TestOfAllSmall(t *testing.T) {
	count := map[api.Errno]int{}
	for n := range 5 {
		for bits := range 1 << (n * n) {
			next := make([][]int, n)
			for k := range n * n {
				if bits>>k&1 == 1 {
					next[k/n] = append(next[k/n], k%n)
				}
			}
			count[holdOf(t, next)]++
		}
	}
	// How many ways there are for functions not to go round is known: 1, 1, 3, 25, 543.
	if count[api.OK] != 1+1+3+25+543 || count[api.ErrCycle] != 1+2+16+512+65536-count[api.OK] {
		t.Errorf("%v", count)
	}
}

// P17.1, P17.3, P17.4: rows made by chance.
func TestOfByChance(t *testing.T) {
	d := dice(171)
	count := map[api.Errno]int{}
	for range 3000 {
		next := d.rows(1 + d.below(40))
		if d.below(10) == 0 {
			i := d.below(len(next))
			next[i] = append(next[i], noFunctions(len(next))[d.below(8)])
		}
		count[holdOf(t, next)]++
	}
	for _, e := range []api.Errno{api.OK, api.ErrRange, api.ErrCycle} {
		if count[e] < 200 {
			t.Errorf("%d of the error %d", count[e], e)
		}
	}
}
