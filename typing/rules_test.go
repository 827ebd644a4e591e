package typing

import (
	"slices"
	"sync"
	"testing"

	"intaglio/api"
	"intaglio/consts"
)

// answers are all that the three calls answer of a module.
type answers struct {
	check api.Spot
	fits  []bool
	types []uint32
	spots []api.Spot
}

// asks are the answers of a module, of each of so many places and ids.
func asks(m api.Module, each int) answers {
	a := answers{check: Check(m)}
	for at := -1; at <= len(m.Insts); at += each {
		is, s := Fits(m, at)
		a.fits, a.spots = append(a.fits, is), append(a.spots, s)
	}
	for id := uint32(0); id <= m.Bound; id += uint32(each) {
		typeId, s := Type(m, id)
		a.types, a.spots = append(a.types, typeId), append(a.spots, s)
	}
	return a
}

// equal says whether answers are the same.
func (a answers) equal(b answers) bool {
	return a.check == b.check && slices.Equal(a.fits, b.fits) && slices.Equal(a.types, b.types) && slices.Equal(a.spots, b.spots)
}

// R3: what is handed in is not changed, the room behind a list's end neither; nor is it kept: written over, it changes no later answer.
func TestModuleHandedIn(t *testing.T) {
	d := dice(187)
	behind := []api.Arg{{Kind: api.ArgText, S: "behind"}, anId(77)}
	for n := range 12 {
		want := d.module([]int{0, 5}[n%2])
		before := asks(want, 13)
		m := copyOf(want)
		for at, i := range m.Insts {
			m.Insts[at].Args = append(slices.Clone(i.Args), behind...)[:len(i.Args)]
		}
		m.Insts = append(m.Insts, inst(77, 7, 7))[:len(want.Insts)]
		if !asks(m, 13).equal(before) {
			t.Fatal("of a module with room behind its lists the answers are others")
		}
		if !same(m, want) || m.Insts[:len(m.Insts)+1][len(m.Insts)].Op != 77 {
			t.Fatal("what was handed in is changed")
		}
		for at, i := range m.Insts {
			if !slices.Equal(i.Args[:len(i.Args)+2][len(i.Args):], behind) {
				t.Fatalf("the room behind the arguments of %d is changed", at)
			}
			clear(i.Args[:len(i.Args)+2])
		}
		clear(m.Insts[:len(m.Insts)+1])
		if !asks(want, 13).equal(before) {
			t.Fatal("what becomes of a module changes the answers of another one")
		}
	}
}

// R3: what was answered is written over; later calls answer as before.
func TestAnswersWrittenOver(t *testing.T) {
	m := dice(1870).module6()
	first := asks(m, 1)
	later := asks(m, 1)
	clear(later.fits)
	clear(later.types)
	clear(later.spots)
	later.check = spot(api.ErrNil, 99)
	if !asks(m, 1).equal(first) {
		t.Error("the answers are others")
	}
}

// module6 is a module in which some instructions do not fit.
func (d dice) module6() api.Module { return d.module(6) }

// R3: nil and empty lists are one.
func TestNilAndEmpty(t *testing.T) {
	m := dice(1871).module6()
	before := asks(m, 7)
	for at, i := range m.Insts {
		if len(i.Args) == 0 {
			m.Insts[at].Args = []api.Arg{}
		}
	}
	if !asks(m, 7).equal(before) {
		t.Error("with empty lists the answers are others")
	}
	for at, i := range m.Insts {
		if len(i.Args) == 0 {
			m.Insts[at].Args = nil
		}
	}
	if !asks(m, 7).equal(before) {
		t.Error("with nil lists the answers are others")
	}
}

// R1, R2, R8: every call ends, and none panics, whatever the module, the place and the id; what consts.New says goes ahead.
func TestWhateverModule(t *testing.T) {
	d := dice(1872)
	count := map[api.Errno]int{}
	for n := range 1500 {
		g := grower{dice: &d, m: read(slices.Clone(front)...).Module, noise: []int{0, 3}[n%2]}
		g.function()
		m := g.m
		for range d.below(3) {
			d.spoil(&m)
		}
		_, fault := consts.New(m)
		at, id := d.below(len(m.Insts)+2)-1, uint32(d.below(int(m.Bound)+2))
		is, s1 := Fits(m, at)
		typeId, s2 := Type(m, id)
		s := Check(m)
		if fault.Err != api.OK {
			count[api.ErrOrder]++
			if s != fault || s1 != fault || s2 != fault || is || typeId != 0 {
				t.Fatalf("Check %v, Fits %v, %v, Type %d, %v; not %v", s, is, s1, typeId, s2, fault)
			}
			continue
		}
		count[s.Err]++
		if want := saidCheck(m); s != want {
			t.Fatalf("Check: %v; not %v, of %v", s, want, m)
		}
		if at < 0 || at >= len(m.Insts) {
			if is || s1 != spot(api.ErrRange, 0) {
				t.Fatalf("Fits of %d: %v, %v", at, is, s1)
			}
		} else if is != saidFits(m, at) || s1 != (api.Spot{}) {
			t.Fatalf("Fits of %d: %v, %v, of %v", at, is, s1, m)
		}
		if want, fault := saidTypeOf(m, id); typeId != want || s2 != fault {
			t.Fatalf("Type of %d: %d, %v; not %d, %v", id, typeId, s2, want, fault)
		}
	}
	for _, e := range []api.Errno{api.OK, api.ErrTyped, api.ErrOrder} {
		if count[e] < 150 {
			t.Errorf("%d of the error %d", count[e], e)
		}
	}
}

// spoil changes an instruction of a module, whatever comes of it.
func (d *dice) spoil(m *api.Module) {
	at := d.below(len(m.Insts))
	switch i := m.Insts[at]; d.below(8) {
	case 0:
		m.Insts[at] = inst(uint16(d.below(1<<16)), 0, uint32(d.below(30)))
	case 1:
		m.Insts = slices.Insert(m.Insts, at, m.Insts[d.below(len(m.Insts))])
	case 2:
		m.Insts = slices.Delete(m.Insts, at, at+1)
	case 3:
		m.Insts[at].Type = uint32(d.below(int(m.Bound) + 1))
	case 4:
		m.Bound = uint32(d.below(1000))
	case 5:
		m.Insts[at].Args = nil
	default:
		for k, a := range i.Args {
			if a.Kind == api.ArgId && d.below(2) == 0 {
				m.Insts[at].Args = slices.Clone(i.Args)
				m.Insts[at].Args[k].N = uint32(1 + d.below(int(m.Bound)))
			}
		}
	}
}

// R5: several goroutines may ask at one time, of one module and of others; whatever else was asked.
func TestManyAsk(t *testing.T) {
	d := dice(1873)
	var modules []api.Module
	var want []answers
	for n := range 4 {
		modules = append(modules, d.module([]int{0, 6}[n%2]))
		want = append(want, asks(modules[n], 17))
	}
	var done sync.WaitGroup
	wrong := make([]int, 8)
	for k := range wrong {
		done.Add(1)
		go func() {
			defer done.Done()
			for n := range 8 {
				if i := (n + k) % len(modules); !asks(modules[i], 17).equal(want[i]) {
					wrong[k]++
				}
			}
		}()
	}
	done.Wait()
	if slices.Max(wrong) > 0 {
		t.Errorf("other answers: %v", wrong)
	}
}
