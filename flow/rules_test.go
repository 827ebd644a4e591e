package flow

import (
	"slices"
	"sync"
	"testing"

	"intaglio/api"
	"intaglio/code"
)

// answers are all that the three calls answer of a module.
type answers struct {
	check api.Spot
	live  [][]uint32
	seen  []bool
	spots []api.Spot
}

// asks are the answers of a module: Live of all ids, Seen of each of so many ids and places.
func asks(m api.Module, each int) answers {
	a := answers{check: Check(m)}
	for id := range m.Bound + 1 {
		l, s := Live(m, id)
		a.live, a.spots = append(a.live, l), append(a.spots, s)
		for at := int(id)%each - 1; at <= len(m.Insts); at += each {
			is, s := Seen(m, id, at)
			a.seen, a.spots = append(a.seen, is), append(a.spots, s)
		}
	}
	return a
}

// equal says whether answers are the same.
func (a answers) equal(b answers) bool {
	return a.check == b.check && slices.EqualFunc(a.live, b.live, slices.Equal) && slices.Equal(a.seen, b.seen) && slices.Equal(a.spots, b.spots)
}

// R3: what is handed in is not changed, the room behind a list's end neither; nor is it kept: written over, it changes no later answer.
func TestModuleHandedIn(t *testing.T) {
	d := dice(1961)
	behind := []api.Arg{{Kind: api.ArgText, S: "behind"}, anId(77)}
	for n := range 20 {
		want := d.module([]int{0, 30}[n%2])
		before := asks(want, 13)
		m := copyOf(want)
		for at, i := range m.Insts {
			m.Insts[at].Args = append(slices.Clone(i.Args), behind...)[:len(i.Args)]
		}
		m.Insts = append(m.Insts, inst(77, 7, 7))[:len(want.Insts)]
		if !asks(m, 13).equal(before) {
			t.Fatal("of a module with room behind its lists the answers are others")
		}
		if !same(m, want) || m.Insts[:len(m.Insts)+1][len(m.Insts)].Op != 77 {
			t.Fatal("what was handed in is changed")
		}
		for at, i := range m.Insts {
			if !slices.Equal(i.Args[:len(i.Args)+2][len(i.Args):], behind) {
				t.Fatalf("the room behind the arguments of %d is changed", at)
			}
			clear(i.Args[:len(i.Args)+2])
		}
		clear(m.Insts[:len(m.Insts)+1])
		if !asks(want, 13).equal(before) {
			t.Fatal("what becomes of a module changes the answers of another one")
		}
	}
}

// R3: what was answered is new memory, the room behind its end too: written over, it changes no later answer.
func TestAnswersWrittenOver(t *testing.T) {
	d := dice(1962)
	lists := 0
	for range 20 {
		m := d.module(0)
		before := asks(m, 17)
		for id := range m.Bound {
			l, _ := Live(m, id)
			other, _ := Live(m, id)
			want := slices.Clone(l)
			for k := range other[:cap(other)] {
				other[:cap(other)][k] = 99
			}
			if !slices.Equal(l, want) {
				t.Fatal("two answers share memory")
			}
			lists += len(l)
		}
		if !asks(m, 17).equal(before) {
			t.Fatal("the answers are others")
		}
	}
	if lists < 100 {
		t.Errorf("%d ids are wanted", lists)
	}
}

// R3: nil and empty lists are one.
func TestNilAndEmpty(t *testing.T) {
	d := dice(1963)
	for n := range 6 {
		m := d.module([]int{0, 30}[n%2])
		before := asks(m, 17)
		for _, empty := range [][]api.Arg{{}, nil} {
			for at, i := range m.Insts {
				if len(i.Args) == 0 {
					m.Insts[at].Args = empty
				}
			}
			if !asks(m, 17).equal(before) {
				t.Error("with other empty lists the answers are others")
			}
		}
	}
}

// R1, R2, R8: every call ends, and none panics, whatever the module, the label, the id and the place.
func TestWhateverModule(t *testing.T) {
	d := dice(1964)
	count := map[api.Errno]int{}
	for n := range 3000 {
		m := d.module([]int{0, 60}[n%2])
		for range 1 + d.below(2) {
			d.spoil(&m)
		}
		o := say(m)
		count[o.fault.Err/10]++
		if s := Check(m); s != o.fault {
			t.Fatalf("Check: %v; not %v, of %v", s, o.fault, m)
		}
		for range 5 {
			id, at := uint32(d.below(int(m.Bound)+2)), d.below(len(m.Insts)+2)-1
			l, s := Live(m, id)
			if want, fault := o.live(id); !slices.Equal(l, want) || s != fault || s.Err != api.OK && l != nil {
				t.Fatalf("Live of %d: %v, %v; not %v, %v, of %v", id, l, s, want, fault, m)
			}
			is, s := Seen(m, id, at)
			if want, fault := o.seen(id, at); is != want || s != fault {
				t.Fatalf("Seen of %d at %d: %v, %v; not %v, %v, of %v", id, at, is, s, want, fault, m)
			}
		}
	}
	for layer, least := range map[api.Errno]int{0: 100, 4: 20, 5: 100, 9: 100, 14: 20, 19: 100} {
		if count[layer] < least {
			t.Errorf("%d errors of the layer %d: %v", count[layer], layer, count)
		}
	}
}

// spoil changes an instruction of a module, whatever comes of it.
func (d *dice) spoil(m *api.Module) {
	at := d.below(len(m.Insts))
	switch i := m.Insts[at]; d.below(9) {
	case 0:
		m.Insts[at] = inst(uint16(d.below(1<<16)), 0, uint32(d.below(30)))
	case 1:
		m.Insts = slices.Insert(m.Insts, at, m.Insts[d.below(len(m.Insts))])
	case 2:
		m.Insts = slices.Delete(m.Insts, at, at+1)
	case 3:
		m.Insts[at].Type = uint32(d.below(int(m.Bound) + 1))
	case 4:
		m.Bound = uint32(d.below(100))
	case 5:
		m.Insts[at].Args = nil
	default:
		m.Insts[at].Args = slices.Clone(i.Args)
		for k, a := range i.Args {
			if a.Kind == api.ArgId && d.below(2) == 0 {
				m.Insts[at].Args[k].N = uint32(1 + d.below(int(m.Bound)))
			}
		}
	}
}

// R1: modules whose lists of arguments are whatever, even those of a phi with a value and no parent.
func TestStrangeArguments(t *testing.T) {
	for _, args := range [][]api.Arg{{anId(6)}, {anId(someTruth), anId(7), anId(someTruth)}, {aNumber(1), aNumber(2)}, {{}, {}}, {anId(0), anId(0)}, {{Kind: 99, N: 6}}, {{Kind: api.ArgText, S: "x\x00y"}}} {
		for _, op := range []uint16{opPhi, 249, 250, 251, 246, 247, 59, 83, 254} {
			m := dice(1965).phiModule()
			at := slices.IndexFunc(m.Insts, func(i api.Inst) bool { return i.Op == opPhi })
			m.Insts[at].Op, m.Insts[at].Args = op, args
			want := code.Shape(m)
			if want.Err == api.OK {
				continue
			}
			holdFault(t, m, want, "strange arguments")
		}
	}
}

// phiModule is a module that has a phi.
func (d dice) phiModule() api.Module {
	for {
		m := d.module(0)
		if slices.ContainsFunc(m.Insts, func(i api.Inst) bool { return i.Op == opPhi }) {
			return m
		}
	}
}

// R5: several goroutines may ask at one time, of one module and of others; whatever else was asked.
func TestManyAsk(t *testing.T) {
	d := dice(1966)
	var modules []api.Module
	var want []answers
	for n := range 4 {
		modules = append(modules, d.module([]int{0, 30}[n%2]))
		want = append(want, asks(modules[n], 17))
	}
	var done sync.WaitGroup
	wrong := make([]int, 8)
	for k := range wrong {
		done.Add(1)
		go func() {
			defer done.Done()
			for n := range 8 {
				if i := (n + k) % len(modules); !asks(modules[i], 17).equal(want[i]) {
					wrong[k]++
				}
			}
		}()
	}
	done.Wait()
	if slices.Max(wrong) > 0 {
		t.Errorf("other answers: %v", wrong)
	}
}
