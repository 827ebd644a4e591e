package ids

import (
	"math"
	"slices"
	"sync"
	"testing"

	"intaglio/api"
	"intaglio/code"
	"intaglio/layout"
)

// anyNumber is a number, often one at an edge.
func (d *dice) anyNumber() uint32 {
	switch d.below(5) {
	case 0:
		return []uint32{0, api.MaxBound - 1, api.MaxBound, api.MaxBound + 1, 1 << 31, math.MaxUint32}[d.below(6)]
	default:
		return uint32(d.below(5))
	}
}

// anyModule is a module of any fields.
func (d *dice) anyModule() api.Module {
	m := module(d.anyNumber(), d.anyNumber())
	for range d.below(4) {
		i := inst(uint16(d.below(260)), d.anyNumber(), d.anyNumber())
		if d.below(2) == 0 {
			all := samples()
			i = all[d.below(len(all))]
			i.Args = slices.Clone(i.Args)
		}
		for range d.below(4) / 3 {
			i.Args = append(i.Args, api.Arg{Kind: uint8(d.below(6)), N: d.anyNumber(), S: []string{"", "", "a", "\x00"}[d.below(4)]})
		}
		m.Insts = append(m.Insts, i)
	}
	return m
}

// R1: every call ends, and none panics, whatever the module, the id or the numbers; R2: beside an error all else is zero; R8: what layers below say goes ahead.
func TestAnything(t *testing.T) {
	d := dice(100)
	right := 0
	for range 20000 {
		m, other := d.anyModule(), d.anyModule()
		if d.below(4) == 0 {
			m = d.shaped(3, 2+uint32(d.below(4)))
		}
		shape, order := code.Shape(m), layout.Check(m)
		if s := Check(m); order.Err != api.OK && s != order {
			t.Fatalf("Check: %v; not %v, of %v", s, order, m)
		}
		if l, s := Made(m); s != shape || s.Err != api.OK && len(l) != 0 || s.Err == api.OK && len(l) != int(m.Bound) {
			t.Fatalf("Made: %v, %v of %v", l, s, m)
		}
		if l, s := Uses(m, d.anyNumber()); s != shape || s.Err != api.OK && len(l) != 0 {
			t.Fatalf("Uses: %v, %v of %v", l, s, m)
		}
		to := make([]uint32, d.below(6))
		for i := range to {
			to[i] = d.anyNumber()
		}
		if x, s := Rename(m, to); shape.Err != api.OK && s != shape || s.Err != api.OK && !same(x, api.Module{}) {
			t.Fatalf("Rename: %v, %v of %v by %v", x, s, m, to)
		}
		if x, s := Renumber(m); s != Check(m) || s.Err != api.OK && !same(x, api.Module{}) {
			t.Fatalf("Renumber: %v, %v of %v", x, s, m)
		}
		if Alike(m, m) != (shape.Err == api.OK) || Alike(m, other) != Alike(other, m) {
			t.Fatalf("Alike: %v, %v", m, other)
		}
		if s, is := Name(m, d.anyNumber()); !is && s != "" || is && shape.Err != api.OK {
			t.Fatalf("Name: %q, %v of %v", s, is, m)
		}
		if shape.Err == api.OK {
			right++
		}
	}
	if right < 1000 {
		t.Errorf("%d of good shape", right)
	}
}

// R1: modules of very many instructions that share a long list, and very many numbers.
func TestLarge(t *testing.T) {
	args := slices.Repeat([]api.Arg{anId(1)}, api.MaxCount-2)
	m := module(7, 2, slices.Repeat([]api.Inst{inst(30, 0, 1, args...)}, 1<<20)...)
	large := spot(api.ErrLarge, 16)
	if s := Check(m); s != large {
		t.Errorf("Check: %v", s)
	}
	if l, s := Made(m); s != large || len(l) != 0 {
		t.Errorf("Made: %v, %v", l, s)
	}
	if l, s := Uses(m, 1); s != large || len(l) != 0 {
		t.Errorf("Uses: %v, %v", l, s)
	}
	if _, s := Rename(m, []uint32{0, 1}); s != large {
		t.Errorf("Rename: %v", s)
	}
	if _, s := Renumber(m); s != large {
		t.Errorf("Renumber: %v", s)
	}
	if _, is := Name(m, 1); is || Alike(m, m) {
		t.Error("Name, Alike")
	}
	holdNoRename(t, modelled(9), make([]uint32, 1<<22))
	m.Insts = m.Insts[:16]
	holdUses(t, m, 1, 0, 1, 2, 3, 4, 5, 6, 7, 8, 9, 10, 11, 12, 13, 14, 15)
	holdRename(t, m, []uint32{0, 1}, m)
	holdAlike(t, m, m, true)
}

// roomy is a module whose lists have room behind their ends in which something stands.
func roomy(m api.Module) api.Module {
	l := make([]api.Inst, len(m.Insts), len(m.Insts)+1)
	for at, i := range m.Insts {
		i.Args = append(slices.Clone(i.Args), aText("behind"), anId(77))[:len(i.Args)]
		l[at] = i
	}
	l[:len(l)+1][len(l)] = inst(77, 7, 7)
	m.Insts = l
	return m
}

// holdUnchanged says whether such a module is as it was, the room behind its lists too.
func holdUnchanged(t *testing.T, m, want api.Module) {
	t.Helper()
	if !same(m, want) {
		t.Fatal("what was handed in is changed")
	}
	if i := m.Insts[:len(m.Insts)+1][len(m.Insts)]; i.Op != 77 || i.Type != 7 || i.Result != 7 {
		t.Fatalf("the room behind the instructions is changed: %v", i)
	}
	for at, i := range m.Insts {
		behind := i.Args[:len(i.Args)+2][len(i.Args):]
		if !slices.Equal(behind, []api.Arg{aText("behind"), anId(77)}) {
			t.Fatalf("the room behind the arguments of %d is changed: %v", at, behind)
		}
	}
}

// R3: what is handed in is not changed, the room behind a list's end neither.
func TestNothingChanged(t *testing.T) {
	twice := modelled(9, "%1 = OpTypeBool", "%1 = OpTypeStruct %1 %8")
	for _, want := range []api.Module{shader(), twice, module(7, sampleBound, samples()...)} {
		m, other := roomy(want), roomy(want)
		d := dice(101)
		to := d.renaming(m.Bound)
		room := append(slices.Clone(to), 5, 6, 7)
		Check(m)
		Made(m)
		Uses(m, 1)
		Name(m, 1)
		Rename(m, room[:len(to)])
		Rename(m, room)
		Renumber(m)
		Alike(m, other)
		Alike(m, m)
		holdUnchanged(t, m, want)
		holdUnchanged(t, other, want)
		if !slices.Equal(room, append(slices.Clone(to), 5, 6, 7)) {
			t.Errorf("the numbers are changed: %v", room)
		}
	}
}

// overwrite writes over all of a module's lists, the room behind their ends too.
func overwrite(m api.Module) {
	for at := range m.Insts {
		args := m.Insts[at].Args
		args = args[:cap(args)]
		for k := range args {
			args[k] = api.Arg{Kind: 77, N: 77, S: "over"}
		}
	}
	l := m.Insts[:cap(m.Insts)]
	for at := range l {
		l[at] = api.Inst{Op: 77}
	}
}

// R3: what is answered is new memory: writing over what was handed in does not change it, nor does writing over it change that; a renaming that leaves all ids, too.
func TestNewMemory(t *testing.T) {
	for name, ask := range map[string]func(m api.Module) (api.Module, api.Spot){
		"Rename":               func(m api.Module) (api.Module, api.Spot) { return Rename(m, unchanged(m.Bound)) },
		"Renumber":             Renumber,
		"Renumber of Renumber": func(m api.Module) (api.Module, api.Spot) { n, _ := Renumber(m); return Renumber(n) },
	} {
		m := roomy(shader())
		a, s := ask(m)
		if s != (api.Spot{}) {
			t.Fatalf("%s: %v", name, s)
		}
		want := apart(a)
		b, _ := ask(m)
		overwrite(b)
		holdUnchanged(t, m, shader())
		if !same(a, want) {
			t.Errorf("%s: two answers share memory", name)
		}
		overwrite(m)
		if !same(a, want) {
			t.Errorf("%s: an answer shares memory with what was handed in", name)
		}
	}
	m := shader()
	made, _ := Made(m)
	uses, _ := Uses(m, 3)
	wantMade, wantUses := slices.Clone(made), slices.Clone(uses)
	again, _ := Made(m)
	clear(again[:cap(again)])
	more, _ := Uses(m, 3)
	clear(more[:cap(more)])
	overwrite(m)
	if !slices.Equal(made, wantMade) || !slices.Equal(uses, wantUses) {
		t.Error("Made, Uses: answers share memory")
	}
}

// R3: no two lists of one answer share memory, the room behind their ends neither.
func TestListsApart(t *testing.T) {
	for _, ask := range []func(m api.Module) (api.Module, api.Spot){
		func(m api.Module) (api.Module, api.Spot) { return Rename(m, unchanged(m.Bound)) },
		Renumber,
	} {
		want, _ := ask(shader())
		for n := range want.Insts {
			m, _ := ask(shader())
			args := m.Insts[n].Args
			args = args[:cap(args)]
			for k := range args {
				args[k] = aText("over")
			}
			m.Insts[n].Args = want.Insts[n].Args
			if !same(m, want) {
				t.Fatalf("the list of the instruction %d shares memory with others", n)
			}
		}
	}
	// Instructions that are handed in with one list have lists of their own.
	args := []api.Arg{anId(1), anId(2)}
	m, _ := Rename(module(7, 4, inst(30, 0, 3, args...), inst(30, 0, 3, args...)), []uint32{0, 2, 1, 3})
	m.Insts[0].Args[0].N = 3
	if !slices.Equal(m.Insts[1].Args, []api.Arg{anId(2), anId(1)}) || !slices.Equal(args, []api.Arg{anId(1), anId(2)}) {
		t.Errorf("%v, %v", m, args)
	}
}

// R3: nil and empty lists are one.
func TestNilAndEmpty(t *testing.T) {
	none, empty := module(7, 1), api.Module{Generator: 7, Bound: 1, Insts: []api.Inst{}}
	a := module(7, 3, model(), inst(20, 0, 1), inst(30, 0, 2))
	b := apart(a)
	b.Insts[1].Args, b.Insts[2].Args = []api.Arg{}, []api.Arg{}
	for _, c := range [][2]api.Module{{none, empty}, {a, b}} {
		holdAlike(t, c[0], c[1], true)
		if Check(c[0]) != Check(c[1]) {
			t.Errorf("Check: %v, %v", Check(c[0]), Check(c[1]))
		}
		to := unchanged(c[0].Bound)
		holdRename(t, c[0], to, c[1])
		holdRename(t, c[1], to, c[0])
	}
	holdRenumber(t, a, b)
	holdRenumber(t, b, a)
	holdNoRename(t, none, []uint32{})
	holdNoRename(t, none, nil)
}

// R5: what is answered hangs on the arguments alone, whatever was asked ahead, and whoever asks at the same time.
func TestAnswersHangOnArguments(t *testing.T) {
	m, bad := shader(), modelled(9, "%1 = OpTypeStruct %1 %8")
	wantMade, _ := Made(m)
	wantUses, _ := Uses(m, 3)
	want := saidRenumber(m)
	d := dice(102)
	to := d.renaming(m.Bound)
	other := saidRename(m, to)
	var done sync.WaitGroup
	for range 8 {
		done.Go(func() {
			for range 30 {
				if s := Check(bad); s != spot(api.ErrUnknown, 1) {
					t.Errorf("Check: %v", s)
				}
				holdMade(t, m, wantMade...)
				holdUses(t, m, 3, wantUses...)
				holdRename(t, m, to, other)
				holdRenumber(t, m, want)
				holdAlike(t, m, other, true)
				holdAlike(t, m, bad, false)
				holdName(t, m, 10, "main")
			}
		})
	}
	done.Wait()
}
