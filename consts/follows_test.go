package consts

import (
	"slices"
	"testing"

	"intaglio/api"
	"intaglio/ids"
)

// holdFollows says whether of each constant the value has as many words as the type, whether a composite's is its parts', and whether what is found of it stands not behind it.
func holdFollows(t *testing.T, p *Pool, m api.Module) (composites, ahead int) {
	t.Helper()
	order := p.Ids()
	for place, id := range order {
		typeId, w, is := p.Value(id)
		if !is || len(w) != p.Types().Size(typeId) || len(w) == 0 {
			t.Fatalf("%d: %d words, the type has %d", id, len(w), p.Types().Size(typeId))
		}
		i := m.Insts[saidPlace(m, id)]
		if saidName(i) == "OpConstantComposite" {
			composites++
			holdParts(t, p, i, w)
		}
		first, is := p.Find(typeId, w)
		at := slices.Index(order, first)
		if !is || at < 0 || at > place {
			t.Fatalf("%d: %d, %v is found", id, first, is)
		}
		if otherType, other, _ := p.Value(first); otherType != typeId || !slices.Equal(other, w) {
			t.Fatalf("%d: %d is found, which has %d, %v", id, first, otherType, other)
		}
		if at < place {
			ahead++
		}
	}
	return composites, ahead
}

// holdParts says whether a composite's words are its parts', one behind the other.
func holdParts(t *testing.T, p *Pool, i api.Inst, w []uint32) {
	t.Helper()
	var all []uint32
	for k, a := range i.Args {
		if at, is := p.Types().Offset(i.Type, k); at != len(all) || !is {
			t.Fatalf("the part %d of %v stands at %d, not at %d", k, i, len(all), at)
		}
		_, part, _ := p.Value(a.N)
		all = append(all, part...)
	}
	if !slices.Equal(all, w) {
		t.Fatalf("the parts of %v have %v, it has %v", i, all, w)
	}
}

// P11.5: the modules here.
func TestFollows(t *testing.T) {
	for _, m := range []api.Module{modelled(), fronted(), fronted("%30 = OpUndef %6")} {
		holdFollows(t, pool(t, m), m)
	}
	if composites, ahead := holdFollows(t, pool(t, many()), many()); composites != 8 || ahead != 9 {
		t.Errorf("%d composites, %d found ahead", composites, ahead)
	}
}

// P11.5: modules made by chance.
func TestFollowsByChance(t *testing.T) {
	d := dice(115)
	composites, ahead := 0, 0
	for range 300 {
		m := d.sound()
		a, b := holdFollows(t, pool(t, m), m)
		composites, ahead = composites+a, ahead+b
	}
	if composites < 1000 || ahead < 500 {
		t.Errorf("%d composites, %d found ahead", composites, ahead)
	}
}

// holdRenamed says whether a renaming of a module has the same values and first words, and finds the same, but for the ids.
func holdRenamed(t *testing.T, m api.Module, to []uint32) {
	t.Helper()
	n, s := ids.Rename(m, to)
	if s.Err != api.OK {
		t.Fatal(s)
	}
	p, q := pool(t, m), pool(t, n)
	turned := func(l []uint32) []uint32 {
		for k, id := range l {
			l[k] = to[id]
		}
		return l
	}
	if !slices.Equal(q.Ids(), turned(p.Ids())) || !slices.Equal(q.Variables(), turned(p.Variables())) {
		t.Fatalf("the ids of a renaming: %v, %v", q.Ids(), q.Variables())
	}
	for _, id := range p.Ids() {
		typeId, w, _ := p.Value(id)
		holdValue(t, q, to[id], to[typeId], w...)
		first, _ := p.Find(typeId, w)
		holdFound(t, q, to[first], to[typeId], w...)
	}
	for _, id := range p.Variables() {
		class, holds, w, _ := p.Variable(id)
		holdVariable(t, q, to[id], class, to[holds], w...)
	}
}

// P11.5: values hang on no ids.
func TestRenamed(t *testing.T) {
	d := dice(116)
	for _, m := range []api.Module{modelled(), fronted(), many()} {
		for range 10 {
			holdRenamed(t, m, d.renaming(m.Bound))
		}
	}
	for range 300 {
		m := d.sound()
		holdRenamed(t, m, d.renaming(m.Bound))
	}
}

// P11.1: a fault of a module is that of its renamings, too.
func TestRenamedFaults(t *testing.T) {
	d := dice(117)
	for range 500 {
		m := d.spoiled(d.sound())
		n, _ := ids.Rename(m, d.renaming(m.Bound))
		_, a := New(m)
		if _, b := New(n); a != b {
			t.Fatalf("%v, and of a renaming %v: %v", a, b, m)
		}
	}
}
