package typing

import (
	"slices"
	"testing"

	"intaglio/api"
	"intaglio/consts"
	"intaglio/grammar"
	"intaglio/ids"
	"intaglio/types"
)

// holdSound says whether a module's constants are sound, so that its instructions are asked.
func holdSound(t *testing.T, m api.Module) {
	t.Helper()
	if _, s := consts.New(m); s.Err != api.OK {
		t.Fatalf("not sound: %v, of %v", s, m)
	}
}

// P18.1 to P18.3: modules made by chance, held against the chapter's words; each operation of the table fits there, and does not.
func TestByChance(t *testing.T) {
	d := dice(181)
	fit, fail := map[uint16]int{}, map[uint16]int{}
	for n := range 200 {
		m := d.module([]int{0, 4, 8, 30}[n%4])
		holdSound(t, m)
		holdSaid(t, m, 1+n%61)
		for at, i := range m.Insts {
			switch {
			case saidFunction(m, at) < 0:
			case saidFits(m, at):
				fit[i.Op]++
			default:
				fail[i.Op]++
			}
		}
	}
	for f := range grammar.All() {
		is := f.Part == 8 || f.Name == "OpVariable"
		if is && fit[f.Op] < 3 && f.Name != "OpKill" && f.Name != "OpLoopMerge" && f.Name != "OpSelectionMerge" {
			t.Errorf("%s: it fits %d times", f.Name, fit[f.Op])
		}
		if is && !slices.Contains(notAsked, f.Name) && fail[f.Op] < 3 {
			t.Errorf("%s: it does not fit %d times", f.Name, fail[f.Op])
		}
	}
}

// P18.4: Check's place is the first one of which Fits says false; where it is OK Fits is true of all places.
func TestFirst(t *testing.T) {
	d := dice(182)
	count := map[api.Errno]int{}
	for n := range 60 {
		m := d.module([]int{0, 4, 300}[n%3])
		s := Check(m)
		count[s.Err]++
		want := api.Spot{}
		for at := range m.Insts {
			if is, _ := Fits(m, at); !is {
				want = typed(at)
				break
			}
		}
		if s != want {
			t.Fatalf("Check: %v; not %v", s, want)
		}
		if n%3 == 0 && s.Err != api.OK {
			t.Fatalf("Check: %v, of what fits", s)
		}
	}
	if count[api.OK] < 20 || count[api.ErrTyped] < 20 {
		t.Errorf("%v", count)
	}
}

// P18.4: with other ids all is the same.
func TestRenamed(t *testing.T) {
	d := dice(183)
	for n := range 60 {
		m := d.module([]int{0, 4, 20}[n%3])
		to := d.renaming(m.Bound)
		other, s := ids.Rename(m, to)
		if s.Err != api.OK {
			t.Fatalf("Rename: %v", s)
		}
		numbered, _ := ids.Renumber(m)
		if a, b, c := Check(m), Check(other), Check(numbered); a != b || a != c {
			t.Fatalf("Check: %v, %v, %v", a, b, c)
		}
		for at := range m.Insts {
			if (at+n)%5 != 0 {
				continue
			}
			a, s1 := Fits(m, at)
			b, s2 := Fits(other, at)
			c, s3 := Fits(numbered, at)
			if a != b || a != c || s1 != s2 || s1 != s3 {
				t.Fatalf("Fits of %d: %v, %v, %v", at, a, b, c)
			}
		}
		for id := range m.Bound + 2 {
			if (int(id)+n)%5 != 0 {
				continue
			}
			a, s1 := Type(m, id)
			renamed := id
			if id < m.Bound {
				renamed, a = to[id], to[a]
			}
			if b, s2 := Type(other, renamed); a != b || s1 != s2 {
				t.Fatalf("Type of %d: %d, %v; renamed %d, %v", id, a, s1, b, s2)
			}
		}
	}
}

// otherwise is a module whose instructions in functions, but that at a place, are others, where they may be: they make the same ids, of the same types.
func (d *dice) otherwise(m api.Module, at int) api.Module {
	m = copyOf(m)
	made := func() uint32 {
		for {
			if id := m.Insts[d.below(len(m.Insts))].Result; id != 0 {
				return id
			}
		}
	}
	for k, i := range m.Insts {
		if k == at || saidFunction(m, k) < 0 {
			continue
		}
		switch {
		case i.Op == 59:
			m.Insts[k].Args = []api.Arg{anEnum(7), anId(made())}
		case i.Op == 245:
			m.Insts[k].Args = []api.Arg{anId(made()), anId(made())}
		case 56 < i.Op && i.Op < 245 && i.Type != 0:
			m.Insts[k] = []api.Inst{inst(83, i.Type, i.Result, anId(made())), inst(128, i.Type, i.Result, anId(made()), anId(made())), inst(65, i.Type, i.Result, anId(made())), inst(57, i.Type, i.Result, anId(made()))}[d.below(4)]
		case i.Op == 62:
			m.Insts[k].Args = []api.Arg{anId(made()), anId(made())}
		case i.Op >= 249:
			m.Insts[k] = []api.Inst{inst(253, 0, 0), inst(254, 0, 0, anId(made())), inst(252, 0, 0), inst(250, 0, 0, anId(made()), anId(made()), anId(made()))}[d.below(4)]
		}
	}
	return m
}

// P18.4: what fits does so whatever other instructions of functions are, as long as its ids, and its function, have their types.
func TestOthersOtherwise(t *testing.T) {
	d := dice(184)
	spoiled := 0
	for n := range 40 {
		m := d.module([]int{0, 6}[n%2])
		for at := range m.Insts {
			if saidFunction(m, at) < 0 {
				continue
			}
			want, _ := Fits(m, at)
			other := d.otherwise(m, at)
			if is, s := Fits(other, at); is != want || s.Err != api.OK {
				t.Fatalf("Fits of %d: %v, %v; not %v, of %v", at, is, s, want, other)
			}
			if Check(other) != Check(m) {
				spoiled++
			}
		}
	}
	if spoiled < 500 {
		t.Errorf("%d modules are otherwise", spoiled)
	}
}

// P18.4: nor do other instructions count that stand in the function, and name nothing of it, or lack.
func TestOthersMoreOrLess(t *testing.T) {
	d := dice(185)
	for range 100 {
		m := d.module(6)
		at := d.below(len(m.Insts))
		want, _ := Fits(m, at)
		// A store ahead of a block's end, a function at the end of the module: neither fits.
		longer := copyOf(m)
		last := slices.IndexFunc(m.Insts, func(i api.Inst) bool { return i.Op >= 249 })
		longer.Insts = slices.Insert(longer.Insts, last, inst(62, 0, 0, anId(1), anId(1)))
		if at >= last {
			at++
		}
		longer.Insts = append(longer.Insts, inst(54, 1, m.Bound, anEnum(0), anId(1)), inst(248, 0, m.Bound+1), inst(253, 0, 0), inst(56, 0, 0))
		longer.Bound += 2
		if is, s := Fits(longer, at); is != want || s.Err != api.OK {
			t.Fatalf("Fits of %d: %v, %v; not %v", at, is, s, want)
		}
	}
}

// P18.5: of a typed module all that is put, handed in and added is as large as what takes it.
func TestTypedFollows(t *testing.T) {
	d := dice(186)
	count := map[string]int{}
	for n := range 600 {
		m := d.module([]int{0, 0, 400}[n%3])
		if Check(m).Err != api.OK {
			continue
		}
		table, _ := types.New(m)
		of := func(id uint32) uint32 {
			typeId, s := Type(m, id)
			if s.Err != api.OK {
				t.Fatalf("Type of %d: %v", id, s)
			}
			return typeId
		}
		for _, i := range m.Insts {
			count[saidName(i)]++
			switch saidName(i) {
			case "OpIAdd":
				for _, a := range i.Args {
					if table.Size(of(a.N)) != table.Size(i.Type) {
						t.Fatalf("the words of %v, of %v", i, m)
					}
				}
			case "OpStore":
				holds, is := table.Part(of(i.Args[0].N), 0)
				if table.Size(of(i.Args[1].N)) != table.Size(holds) || !is || table.Size(holds) == 0 {
					t.Fatalf("the words of %v, of %v", i, m)
				}
			case "OpFunctionCall":
				holdHandedIn(t, m, i, of)
			}
		}
	}
	for _, name := range []string{"OpIAdd", "OpStore", "OpFunctionCall"} {
		if count[name] < 100 {
			t.Errorf("%s: %d", name, count[name])
		}
	}
}

// holdHandedIn says whether a call hands in what the function takes, and is of what it answers.
func holdHandedIn(t *testing.T, m api.Module, i api.Inst, of func(id uint32) uint32) {
	t.Helper()
	at := slices.IndexFunc(m.Insts, func(f api.Inst) bool { return f.Result == i.Args[0].N })
	if m.Insts[at].Type != i.Type {
		t.Fatalf("the type of %v, of %v", i, m)
	}
	for _, a := range i.Args[1:] {
		at++
		if p := m.Insts[at]; saidName(p) != "OpFunctionParameter" || p.Type != of(a.N) {
			t.Fatalf("the parameters of %v, of %v", i, m)
		}
	}
	if saidName(m.Insts[at+1]) == "OpFunctionParameter" {
		t.Fatalf("too few arguments of %v, of %v", i, m)
	}
}
