package arith

import (
	"slices"
	"sync"
	"testing"

	"intaglio/api"
)

// R1: every call ends, and none panics, of every operation, of any words, of any rows.
func TestWhatever(t *testing.T) {
	d := dice(137)
	for op := range 1 << 16 {
		for range 3 {
			op := uint16(op)
			if d.below(2) == 0 {
				l := chapter()
				op = l[d.below(len(l))].op
			}
			Arity(op)
			Unary(op, d.word())
			Binary(op, d.word(), d.word())
			Pair(op, d.word(), d.word())
			Field(op, d.words(d.below(7))...)
			l := make([][]uint32, d.below(6))
			for k := range l {
				l[k] = d.words(d.below(3))
			}
			if w, e := Lift(op, l...); e != api.OK && (e != api.ErrArg || len(w) != 0) {
				t.Fatalf("Lift of %d %d: %d, %d", op, l, w, e)
			}
		}
	}
}

// R1: very long rows.
func TestLongRows(t *testing.T) {
	long := make([]uint32, 1<<20)
	for k := range long {
		long[k] = uint32(k)
	}
	w, e := Lift(128, long, long)
	if e != api.OK || len(w) != len(long) || w[1<<20-1] != 1<<21-2 {
		t.Errorf("Lift of OpIAdd: %d words, %d", len(w), e)
	}
	w, e = Lift(152, long, long)
	if e != api.OK || len(w) != 2*len(long) || w[1<<17] != 0 || w[1<<20+1<<17] != 4 {
		t.Errorf("Lift of OpSMulExtended: %d words, %d", len(w), e)
	}
	holdLift(t, called(t, "OpAny"), row(1), long)
	holdLift(t, called(t, "OpAll"), row(0), long)
	holdLift(t, called(t, "OpAll"), row(1), long[1:])
	holdNoLift(t, 128, long, long[1:])
}

// withRoom is a copy of words, with room behind their end that says 77.
func withRoom(w []uint32) []uint32 {
	l := append(slices.Clone(w), 77, 77, 77)
	return l[:len(w):len(l)]
}

// untouched says whether such a copy is as it was, and the room behind its end.
func untouched(l, w []uint32) bool {
	return slices.Equal(l, w) && slices.Equal(l[len(w):len(w)+3], row(77, 77, 77))
}

// overwrite writes over words, and over the room behind their end.
func overwrite(w []uint32) {
	w = w[:cap(w)]
	for k := range w {
		w[k] = 99
	}
}

// roomy is such copies of rows, with a row more in the room behind their end.
func roomy(l [][]uint32) [][]uint32 {
	copies := make([][]uint32, 0, len(l)+1)
	for _, r := range l {
		copies = append(copies, withRoom(r))
	}
	return append(copies, row(77))[:len(l)]
}

// holdUntouched says whether such copies of rows are as they were, and what stands behind them.
func holdUntouched(t *testing.T, c told, given, l [][]uint32) {
	t.Helper()
	for k, r := range l {
		if !untouched(given[k], r) {
			t.Fatalf("Lift of %s: its row %d is changed: %d", c.name, k, given[k])
		}
	}
	if behind := given[:len(l)+1][len(l)]; !slices.Equal(behind, row(77)) {
		t.Fatalf("Lift of %s: the room behind its rows is changed: %d", c.name, behind)
	}
}

// R3: what is handed to Lift is not changed and not kept; what it answers is new memory.
func TestLiftMemory(t *testing.T) {
	d := dice(138)
	for _, c := range chapter() {
		for length := range 6 {
			l := d.rows(c.arity, length)
			want := saidLift(c, l)
			given := roomy(l)
			for range 2 {
				w, e := Lift(c.op, given...)
				if !slices.Equal(w, want) || e != api.OK {
					t.Fatalf("Lift of %s: %d, %d; not %d", c.name, w, e, want)
				}
				overwrite(w)
				holdUntouched(t, c, given, l)
			}
			w, _ := Lift(c.op, given...)
			again, _ := Lift(c.op, given...)
			for _, r := range given {
				overwrite(r)
			}
			if !slices.Equal(w, want) {
				t.Fatalf("Lift of %s: what was handed in is kept", c.name)
			}
			overwrite(again)
			if !slices.Equal(w, want) {
				t.Fatalf("Lift of %s: two answers share memory", c.name)
			}
			holdLift(t, c, want, l...)
		}
	}
}

// R3: the same of rows that are refused.
func TestRefusedMemory(t *testing.T) {
	for _, c := range chapter() {
		l := rows(row(1, 2), row(3, 4), row(5, 6), row(7, 8), row(9))
		given := roomy(l)
		holdNoLift(t, c.op, given...)
		holdUntouched(t, c, given, l)
	}
}

// R3: what is handed to Field is not changed and not kept.
func TestFieldMemory(t *testing.T) {
	d := dice(139)
	for _, c := range ofKind(kindMore) {
		for n := range 7 {
			words := d.words(n)
			given := withRoom(words)
			first, is := Field(c.op, given...)
			if !untouched(given, words) {
				t.Fatalf("Field of %s: its words are changed: %d", c.name, given)
			}
			overwrite(given)
			if x, again := Field(c.op, words...); x != first || again != is {
				t.Fatalf("Field of %s of %d: %d, %v; then %d, %v", c.name, words, first, is, x, again)
			}
		}
	}
}

// R3: one row may be handed in several times, and rows may share memory.
func TestSharedRows(t *testing.T) {
	w := row(1, 2, 3, 4)
	holdLift(t, called(t, "OpIAdd"), row(2, 4, 6, 8), w, w)
	holdLift(t, called(t, "OpISub"), row(1, 1, 1), w[1:], w[:3])
	holdLift(t, called(t, "OpSelect"), row(2, 3), w[:2], w[1:3], w[2:])
	holdLift(t, called(t, "OpBitFieldInsert"), row(10, 35), w[1:3], w[:2], w[2:], w[:2])
	if !slices.Equal(w, row(1, 2, 3, 4)) {
		t.Errorf("the words are %d", w)
	}
}

// R5: the calls may be made by several goroutines at one time, and answer what they answer alone.
func TestAtOneTime(t *testing.T) {
	shared := rows(row(5, 0, top), row(3, 2, 1), row(1, 9, 4), row(2, 2, 40))
	var wait sync.WaitGroup
	for range 8 {
		wait.Go(func() {
			for range 20 {
				for _, c := range chapter() {
					l := shared[:c.arity]
					holdLift(t, c, saidLift(c, l), l...)
					if c.kind != kindRow {
						holdSaidWords(t, c, row(minus(7), 2, 3, 4)[:c.arity]...)
					}
				}
			}
		})
	}
	wait.Wait()
}
