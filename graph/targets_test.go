package graph

import (
	"math"
	"slices"
	"testing"

	"intaglio/api"
	"intaglio/grammar"
)

// holdTargets says whether Targets are these.
func holdTargets(t *testing.T, i api.Inst, want ...uint32) {
	t.Helper()
	if l := Targets(i); !slices.Equal(l, want) {
		t.Errorf("Targets of %v: %v; not %v", i, l, want)
	}
}

// P14.2: the chapter's examples, and others of the three operations.
func TestTargets(t *testing.T) {
	holdTargets(t, inst(251, 0, anId(1), anId(2), aNumber(5), anId(3), aNumber(7), anId(2)), 2, 3, 2)
	holdTargets(t, inst(253, 0))
	holdTargets(t, inst(249, 0))
	holdTargets(t, inst(249, 0, anId(7)), 7)
	holdTargets(t, inst(250, 0, anId(1), anId(2), anId(3)), 2, 3)
	holdTargets(t, inst(250, 0, anId(2), anId(2), anId(2)), 2, 2)
	holdTargets(t, inst(250, 0, anId(1), anId(3), anId(2)), 3, 2)
	holdTargets(t, inst(251, 0, anId(1), anId(2)), 2)
	holdTargets(t, inst(251, 0, anId(1), anId(2), aNumber(3), anId(4)), 2, 4)
	holdTargets(t, inst(251, 0, anId(9), anId(9), aNumber(9), anId(9), aNumber(9), anId(9)), 9, 9, 9)
}

// P14.2: a switch of very many rows.
func TestTargetsOfManyRows(t *testing.T) {
	i := inst(251, 0, anId(1), anId(2))
	want := []uint32{2}
	for n := range uint32(40000) {
		i.Args = append(i.Args, aNumber(n), anId(n/2))
		want = append(want, n/2)
	}
	holdTargets(t, i, want...)
	i.Args = i.Args[:len(i.Args)-1]
	holdTargets(t, i)
}

// P14.2: the kinds of arguments are looked at, and nothing else: neither what the ids are, nor a type and a result.
func TestTargetsOfWhateverIds(t *testing.T) {
	for _, id := range []uint32{0, 1, api.MaxBound, math.MaxUint32} {
		holdTargets(t, inst(249, 0, anId(id)), id)
		holdTargets(t, inst(250, 0, anId(1), anId(id), anId(id)), id, id)
		holdTargets(t, inst(251, 0, anId(1), anId(id), aNumber(3), anId(id)), id, id)
	}
	holdTargets(t, api.Inst{Op: 249, Type: 5, Result: 6, Args: []api.Arg{anId(7)}}, 7)
	holdTargets(t, inst(249, 0, api.Arg{Kind: api.ArgId, N: 7, S: "a"}), 7)
}

// P14.2: arguments that do not fit: too few, too many, a row that is not whole, another kind at each place.
func TestTargetsThatDoNotFit(t *testing.T) {
	right := []api.Inst{
		inst(249, 0, anId(7)),
		inst(250, 0, anId(1), anId(2), anId(3)),
		inst(251, 0, anId(1), anId(2)),
		inst(251, 0, anId(1), anId(2), aNumber(5), anId(3)),
		inst(251, 0, anId(1), anId(2), aNumber(5), anId(3), aNumber(7), anId(2)),
	}
	for _, i := range right {
		if len(Targets(i)) == 0 {
			t.Errorf("%v has none", i)
		}
		for n := range len(i.Args) {
			if i.Op == 251 && n >= 2 && n%2 == 0 {
				continue
			}
			holdTargets(t, inst(i.Op, 0, i.Args[:n]...))
		}
		for _, more := range []api.Arg{anId(1), aNumber(1), aText("a"), anEnum(1), {}} {
			holdTargets(t, inst(i.Op, 0, append(slices.Clone(i.Args), more)...))
		}
		for at := range i.Args {
			for kind := range uint8(7) {
				bad := inst(i.Op, 0, slices.Clone(i.Args)...)
				bad.Args[at].Kind = kind
				if kind != i.Args[at].Kind {
					holdTargets(t, bad)
				}
			}
		}
	}
}

// P14.2: every other operation has none, what is no operation neither; with the arguments of its form, and with those of the three.
func TestTargetsOfOthers(t *testing.T) {
	for op := range 1 << 16 {
		if op == 249 || op == 250 || op == 251 {
			continue
		}
		holdTargets(t, inst(uint16(op), 0))
		holdTargets(t, inst(uint16(op), 0, anId(1)))
		holdTargets(t, inst(uint16(op), 0, anId(1), anId(2), anId(3)))
		holdTargets(t, inst(uint16(op), 0, anId(1), anId(2), aNumber(3), anId(4)))
	}
	for f := range grammar.All() {
		if f.Op == 249 || f.Op == 250 || f.Op == 251 {
			continue
		}
		i := inst(f.Op, 0)
		for _, letter := range []byte(f.Fixed + f.Rest) {
			i.Args = append(i.Args, api.Arg{Kind: grammar.Kind(letter), N: 7})
		}
		holdTargets(t, i)
	}
}

// R3: what is handed to Targets is not changed; what it answers is new memory.
func TestTargetsMemory(t *testing.T) {
	args := []api.Arg{anId(1), anId(2), aNumber(5), anId(3), aNumber(7), anId(2)}
	room := append(slices.Clone(args), aNumber(77), anId(77))
	i := inst(251, 0, room[:len(args)]...)
	a, b := Targets(i), Targets(i)
	clear(b[:cap(b)])
	if !slices.Equal(room[:len(args)], args) || room[len(args)] != aNumber(77) || room[len(args)+1] != anId(77) {
		t.Errorf("what was handed in is changed: %v", room)
	}
	clear(room)
	if !slices.Equal(a, []uint32{2, 3, 2}) {
		t.Errorf("%v", a)
	}
}
