package ids

import (
	"slices"
	"testing"

	"intaglio/api"
)

// renamed is a renaming of a module.
func renamed(t *testing.T, m api.Module, to []uint32) api.Module {
	t.Helper()
	x, s := Rename(m, to)
	if s != (api.Spot{}) {
		t.Fatalf("Rename: %v", s)
	}
	return x
}

// renumbered is a module with its ids numbered.
func renumbered(t *testing.T, m api.Module) api.Module {
	t.Helper()
	x, s := Renumber(m)
	if s != (api.Spot{}) {
		t.Fatalf("Renumber: %v", s)
	}
	return x
}

// holdFollows says whether all that follows holds of a module and a renaming of it.
func holdFollows(t *testing.T, m api.Module, to []uint32) {
	t.Helper()
	x := renamed(t, m, to)
	if !same(renamed(t, x, wayBack(to)), m) || !same(renamed(t, renamed(t, m, wayBack(to)), to), m) {
		t.Fatalf("there and back is another one, by %v: %v", to, m)
	}
	if a, b := Check(m), Check(x); a != b {
		t.Fatalf("Check: %v, and of a renaming %v: %v", a, b, m)
	}
	holdAlike(t, m, x, true)
	n, s := Renumber(m)
	if s != Check(m) {
		t.Fatalf("Renumber: %v; Check: %v", s, Check(m))
	}
	if s.Err == api.OK {
		holdNumbered(t, m, n, x)
	}
}

// holdNumbered says whether what follows holds of a module whose ids are sound, of n, its Renumber, and of x, a renaming of it.
func holdNumbered(t *testing.T, m, n, x api.Module) {
	t.Helper()
	holdAlike(t, m, n, true)
	holdAlike(t, x, n, true)
	if !same(renumbered(t, n), n) {
		t.Fatalf("Renumber of Renumber is another one: %v", n)
	}
	if !same(renumbered(t, x), n) {
		t.Fatalf("Renumber of a renaming is another one: %v", m)
	}
	if s := Check(n); s != (api.Spot{}) {
		t.Fatalf("Check of Renumber: %v", s)
	}
	made, _ := Made(m)
	for id := range m.Bound {
		uses, _ := Uses(m, id)
		if len(uses) > 0 && made[id] < 0 {
			t.Fatalf("%d is named, and not made: %v", id, m)
		}
	}
	all, _ := Made(n)
	if slices.Contains(all[1:], -1) || !slices.IsSorted(all) {
		t.Fatalf("the ids of Renumber are made at %v", all)
	}
}

// P9.6: modules at the edges.
func TestFollows(t *testing.T) {
	d := dice(97)
	for _, m := range []api.Module{
		module(7, 1), module(7, 2), modelled(1), modelled(2), modelled(9), shader(), module(7, sampleBound, samples()...),
		modelled(9, "%1 = OpTypeBool", "%1 = OpTypeBool"), modelled(9, "%1 = OpTypeVector %2 2"), modelled(9, "%1 = OpTypeVector %2 2", "%2 = OpTypeBool"), modelled(9, "%1 = OpTypeVector %1 2"),
		modelled(3, "%2 = OpTypeBool", "%1 = OpTypeVector %2 2"),
	} {
		holdFollows(t, m, unchanged(m.Bound))
		for range 10 {
			holdFollows(t, m, d.renaming(m.Bound))
		}
	}
	for _, c := range badOrders() {
		holdFollows(t, c.m, d.renaming(c.m.Bound))
	}
	holdFollows(t, modelled(api.MaxBound, "%65535 = OpTypeBool", "%1 = OpTypeVector %65535 2"), d.renaming(api.MaxBound))
}

// P9.6: modules made by chance: whose ids are sound, others in order, others of good shape.
func TestFollowsByChance(t *testing.T) {
	d := dice(98)
	for range 1000 {
		m := d.sound()
		holdFollows(t, m, d.renaming(m.Bound))
		holdFollows(t, d.spoiled(m, 2), d.renaming(m.Bound))
		m = d.shaped(8, 2+uint32(d.below(9)))
		holdFollows(t, m, d.renaming(m.Bound))
	}
}

// P9.6: renamings one behind the other are one renaming; who makes an id, who names it and what it is called goes with it.
func TestRenamingsGoOn(t *testing.T) {
	d := dice(99)
	for range 500 {
		m := d.spoiled(d.sound(), 2)
		a, b := d.renaming(m.Bound), d.renaming(m.Bound)
		both := make([]uint32, len(a))
		for i, n := range a {
			both[i] = b[n]
		}
		x := renamed(t, m, a)
		if !same(renamed(t, x, b), renamed(t, m, both)) {
			t.Fatalf("by %v and %v: %v", a, b, m)
		}
		made, _ := Made(m)
		after, _ := Made(x)
		for id := range m.Bound {
			uses, _ := Uses(m, id)
			if made[id] != after[a[id]] {
				t.Fatalf("%d is made at %d, and at %d: %v", id, made[id], after[a[id]], m)
			}
			holdUses(t, x, a[id], uses...)
			s, is := Name(m, id)
			if s1, is1 := Name(x, a[id]); s1 != s || is1 != is {
				t.Fatalf("the name of %d: %q, and %q", id, s, s1)
			}
		}
	}
}
