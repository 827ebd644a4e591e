package calls

import (
	"slices"
	"testing"

	"intaglio/api"
	"intaglio/ids"
)

// holdFollows says whether what follows holds of a Calls: how many calls it has.
func holdFollows(t *testing.T, c *Calls) int {
	t.Helper()
	order := c.Order()
	if all := slices.Sorted(slices.Values(order)); len(all) != c.Len() || !slices.Equal(all, slices.Compact(slices.Clone(all))) {
		t.Fatalf("not all functions, each once: %v", order)
	}
	count := 0
	for i := range c.Len() {
		if d := c.Deep(i); d < 0 || d >= c.Len() {
			t.Fatalf("Deep(%d): %d, of %d functions", i, d, c.Len())
		}
		for _, j := range c.Calls(i) {
			count++
			if slices.Index(order, i) <= slices.Index(order, j) {
				t.Fatalf("%d calls %d, but stands ahead in %v", i, j, order)
			}
		}
		for j := range c.Len() {
			if slices.Contains(c.Calls(i), j) != slices.Contains(c.Called(j), i) {
				t.Fatalf("Calls of %d: %v; Called of %d: %v", i, c.Calls(i), j, c.Called(j))
			}
		}
	}
	return count
}

// holdReached says whether Reached are a function and all that those reach that it calls.
func holdReached(t *testing.T, c *Calls) {
	t.Helper()
	for i := range c.Len() {
		all := row(i)
		for _, j := range c.Calls(i) {
			all = append(all, c.Reached(j)...)
		}
		slices.Sort(all)
		if got := c.Reached(i); !slices.Equal(got, slices.Compact(all)) {
			t.Fatalf("Reached(%d): %v; not %v", i, got, all)
		}
	}
}

// P17.5: the first three sentences, of rows made by chance.
func TestFollowsOf(t *testing.T) {
	d := dice(175)
	count := 0
	for range 300 {
		c := callsOf(t, d.straight(1+d.below(50)))
		count += holdFollows(t, c)
		holdReached(t, c)
	}
	if count < 5000 {
		t.Errorf("%d calls", count)
	}
}

// P17.5: the first three sentences, of modules made by chance.
func TestFollowsNew(t *testing.T) {
	d := dice(176)
	count := 0
	for range 300 {
		m := d.module(d.straight(1+d.below(10)), false)
		c, s := New(m)
		if s.Err != api.OK {
			t.Fatalf("New: %v", s)
		}
		if n := functionCount(t, m); c.Len() != n {
			t.Fatalf("Len: %d; not %d", c.Len(), n)
		}
		count += holdFollows(t, c)
		holdReached(t, c)
	}
	if count < 1000 {
		t.Errorf("%d calls", count)
	}
}

// P17.5: the calls of a module, and of its ids renamed, are the same, and so is what is wrong.
func TestRenamed(t *testing.T) {
	d := dice(177)
	count := map[api.Errno]int{}
	for n := range 600 {
		m := d.module(d.rows(1+d.below(10)), n%2 == 0)
		c, s := New(m)
		other, _ := ids.Rename(m, d.renaming(m.Bound))
		numbered, _ := ids.Renumber(m)
		for _, renamed := range []api.Module{other, numbered} {
			again, also := New(renamed)
			if s != also || (c == nil) != (again == nil) || !asked(c).equal(asked(again)) {
				t.Fatalf("of one's ids renamed: %v, %v; not %v, %v", asked(again), also, asked(c), s)
			}
		}
		count[s.Err]++
	}
	for _, e := range []api.Errno{api.OK, api.ErrCall, api.ErrCycle} {
		if count[e] < 50 {
			t.Errorf("%d of the error %d", count[e], e)
		}
	}
}
