package words

import (
	"math"
	"slices"
	"testing"

	"intaglio/api"
)

// wantPlace holds a reader's At and Left against what they must be.
func wantPlace(t *testing.T, r *Reader, at, left int) {
	t.Helper()
	if r.At() != at || r.Left() != left {
		t.Errorf("at %d, left %d; not %d, %d", r.At(), r.Left(), at, left)
	}
}

// wantWord asks for a word.
func wantWord(t *testing.T, r *Reader, x uint32, e api.Errno) {
	t.Helper()
	if got, err := r.Word(); got != x || err != e {
		t.Errorf("Word: %x, %d; not %x, %d", got, err, x, e)
	}
}

// wantText asks for a text.
func wantText(t *testing.T, r *Reader, s string, e api.Errno) {
	t.Helper()
	if got, err := r.Text(); got != s || err != e {
		t.Errorf("Text: %q, %d; not %q, %d", got, err, s, e)
	}
}

// wantTake asks for n words.
func wantTake(t *testing.T, r *Reader, n int, w []uint32, e api.Errno) {
	t.Helper()
	if got, err := r.Take(n); !slices.Equal(got, w) || err != e {
		t.Errorf("Take(%d): %x, %d; not %x, %d", n, got, err, w, e)
	}
}

// P1.4: the chapter's example.
func TestReader(t *testing.T) {
	r := New([]uint32{5, 0x616d, 9})
	wantPlace(t, r, 0, 3)
	wantWord(t, r, 5, api.OK)
	wantPlace(t, r, 1, 2)
	wantText(t, r, "ma", api.OK)
	wantPlace(t, r, 2, 1)
	wantTake(t, r, 2, nil, api.ErrEnd)
	wantPlace(t, r, 2, 1)
	wantTake(t, r, 1, []uint32{9}, api.OK)
	wantPlace(t, r, 3, 0)
	wantWord(t, r, 0, api.ErrEnd)
	wantPlace(t, r, 3, 0)
}

// P1.4: a reader of no words.
func TestReaderOfNothing(t *testing.T) {
	for _, w := range [][]uint32{nil, {}} {
		r := New(w)
		wantWord(t, r, 0, api.ErrEnd)
		wantText(t, r, "", api.ErrText)
		wantTake(t, r, 1, nil, api.ErrEnd)
		wantTake(t, r, 0, nil, api.OK)
		wantPlace(t, r, 0, 0)
	}
}

// P1.4: Take, from below 0 to above what is left.
func TestReaderTake(t *testing.T) {
	r := New([]uint32{1, 2, 3, 4, 5})
	wantTake(t, r, -1, nil, api.ErrArg)
	wantTake(t, r, math.MinInt, nil, api.ErrArg)
	wantTake(t, r, 6, nil, api.ErrEnd)
	wantTake(t, r, math.MaxInt, nil, api.ErrEnd)
	wantTake(t, r, 0, nil, api.OK)
	wantPlace(t, r, 0, 5)
	wantTake(t, r, 2, []uint32{1, 2}, api.OK)
	wantTake(t, r, 4, nil, api.ErrEnd)
	wantTake(t, r, math.MaxInt, nil, api.ErrEnd)
	wantPlace(t, r, 2, 3)
	wantTake(t, r, 3, []uint32{3, 4, 5}, api.OK)
	wantTake(t, r, -1, nil, api.ErrArg)
	wantTake(t, r, 0, nil, api.OK)
	wantPlace(t, r, 5, 0)
}

// P1.4: Text looks at the words that are left alone, and takes no more than the text's.
func TestReaderText(t *testing.T) {
	r := New([]uint32{0, 0x6e69616d, 0, 0x61006161, 0x62626262, 0x63636363})
	wantText(t, r, "", api.OK)
	wantPlace(t, r, 1, 5)
	wantText(t, r, "main", api.OK)
	wantPlace(t, r, 3, 3)
	wantText(t, r, "", api.ErrPad)
	wantPlace(t, r, 3, 3)
	wantWord(t, r, 0x61006161, api.OK)
	wantText(t, r, "", api.ErrText)
	wantPlace(t, r, 4, 2)
	wantTake(t, r, 2, []uint32{0x62626262, 0x63636363}, api.OK)
	wantText(t, r, "", api.ErrText)
	wantPlace(t, r, 6, 0)
}

// R4: a nil reader.
func TestReaderNil(t *testing.T) {
	var r *Reader
	wantPlace(t, r, 0, 0)
	wantWord(t, r, 0, api.ErrNil)
	wantText(t, r, "", api.ErrNil)
	for _, n := range []int{math.MinInt, -1, 0, 1, math.MaxInt} {
		wantTake(t, r, n, nil, api.ErrNil)
	}
}

// P1.4, R3: a reader goes on by the words as they were, and gives out none of its own.
func TestReaderMemoryIsApart(t *testing.T) {
	w := []uint32{1, 2, 3, 4, 5}
	r := New(w[:4])
	w[0], w[2] = 98, 98
	got, _ := r.Take(2)
	got[0] = 99
	_ = append(got, 99, 99)
	wantTake(t, r, 2, []uint32{3, 4}, api.OK)
	none, _ := r.Take(0)
	_ = append(none, 99)
	if !slices.Equal(w, []uint32{98, 2, 98, 4, 5}) || !slices.Equal(got, []uint32{99, 2}) {
		t.Errorf("%x, %x", w, got)
	}
	again := New([]uint32{1, 2})
	none, _ = again.Take(0)
	_ = append(none, 99)
	wantTake(t, again, 2, []uint32{1, 2}, api.OK)
}

// P1.5: At and Left are together how many words there were, whatever is asked.
func TestReaderSum(t *testing.T) {
	w := make([]uint32, 100)
	for i := range w {
		w[i] = uint32(i*i) * 0x01000193
	}
	r := New(w)
	for i := 0; i < 200; i++ {
		switch i % 4 {
		case 0:
			r.Word()
		case 1:
			r.Text()
		case 2:
			r.Take(i % 7)
		case 3:
			r.Take(-i)
		}
		if r.At()+r.Left() != len(w) || r.At() < 0 || r.Left() < 0 {
			t.Fatalf("at %d, left %d", r.At(), r.Left())
		}
	}
	if r.Left() != 0 {
		t.Errorf("%d are left", r.Left())
	}
}
