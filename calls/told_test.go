package calls

import (
	"slices"
	"testing"
)

// P17.3: functions that call several others, some of them more than once, and in falling order: each once, rising.
func TestCallsOnceRising(t *testing.T) {
	c := callsOf(t, rows(row(5, 3, 5, 1, 3, 3), row(), row(5, 4, 3, 1), row(), row(), row(4, 4)))
	for i, want := range rows(row(1, 3, 5), row(), row(1, 3, 4, 5), row(), row(), row(4)) {
		if got := c.Calls(i); !slices.Equal(got, want) {
			t.Errorf("Calls(%d): %v", i, got)
		}
	}
	for i, want := range rows(row(), row(0, 2), row(), row(0, 2), row(2, 5), row(0, 2)) {
		if got := c.Called(i); !slices.Equal(got, want) {
			t.Errorf("Called(%d): %v", i, got)
		}
	}
	for i, want := range rows(row(0, 1, 3, 4, 5), row(1), row(1, 2, 3, 4, 5), row(3), row(4), row(4, 5)) {
		if got := c.Reached(i); !slices.Equal(got, want) {
			t.Errorf("Reached(%d): %v", i, got)
		}
	}
}

// P17.3: a function to which many ways lead is reached once.
func TestReachedByManyWays(t *testing.T) {
	// Each calls both of the next two: there are very many ways from the first one to the last two.
	n := 400
	next := make([][]int, n)
	for i := 0; i+3 < n; i += 2 {
		next[i], next[i+1] = row(i+2, i+3), row(i+3, i+2)
	}
	c := callsOf(t, next)
	for _, i := range row(0, 1, 2, 199, 200, n-2, n-1) {
		want := row(i)
		for j := i + 2 - i%2; j < n; j++ {
			want = append(want, j)
		}
		if got := c.Reached(i); !slices.Equal(got, want) {
			t.Errorf("Reached(%d): %v", i, got)
		}
		if c.Deep(i) != (n-1-i)/2 {
			t.Errorf("Deep(%d): %d", i, c.Deep(i))
		}
	}
}

// P17.4: Deep is by the longest way, not by the shortest one, wherever the deepest stands among those that are called.
func TestDeepest(t *testing.T) {
	c := callsOf(t, rows(row(1, 2, 3), row(), row(3), row(4), row(1), row(3, 1), row(1, 2), row()))
	for i, want := range row(4, 0, 3, 2, 1, 3, 4, 0) {
		if got := c.Deep(i); got != want {
			t.Errorf("Deep(%d): %d; not %d", i, got, want)
		}
	}
	if got := c.Order(); !slices.Equal(got, row(1, 7, 4, 3, 2, 5, 0, 6)) {
		t.Errorf("Order: %v", got)
	}
}

// P17.4: of functions of the same Deep the one of the lesser number is first, of more than a few, too.
func TestOrderOfTheSame(t *testing.T) {
	n := 1000
	next := make([][]int, n)
	var deeps [3][]int
	for i := range next {
		switch {
		case i%7 == 3 && i > 3:
			next[i] = row(i-6, 3)
			deeps[1] = append(deeps[1], i)
		case i%7 == 5:
			next[i] = row(10)
			deeps[2] = append(deeps[2], i)
		default:
			deeps[0] = append(deeps[0], i)
		}
	}
	c := callsOf(t, next)
	if got := c.Order(); !slices.Equal(got, slices.Concat(deeps[0], deeps[1], deeps[2])) {
		t.Errorf("Order: %v", got)
	}
}

// P17.3, P17.4: of what is no function nothing, and -1.
func TestOfNone(t *testing.T) {
	for n := range 70 {
		next := make([][]int, n)
		for i := range n {
			next[i] = row(0)[:min(i, 1)]
		}
		c := callsOf(t, next)
		for _, i := range noFunctions(n) {
			holdNothing(t, c, i)
		}
		if n > 0 && (c.Deep(n-1) != min(n-1, 1) || !slices.Contains(c.Reached(n-1), n-1)) {
			t.Errorf("of the last one of %d: %d, %v", n, c.Deep(n-1), c.Reached(n-1))
		}
	}
}
