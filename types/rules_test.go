package types

import (
	"math"
	"slices"
	"strconv"
	"sync"
	"testing"

	"intaglio/api"
	"intaglio/grammar"
	"intaglio/ids"
)

// P10.1 to P10.5: modules made by chance, whose types are sound, and others, held against the chapter's words.
func TestByChance(t *testing.T) {
	d := dice(101)
	count, kinds := map[api.Errno]int{}, map[uint8]int{}
	for range 1500 {
		m := d.sound()
		if s := ids.Check(m); s != (api.Spot{}) {
			t.Fatalf("ids.Check: %v, %v", s, m)
		}
		x := table(t, m)
		holdSaid(t, x, m)
		for _, id := range x.Ids() {
			kinds[x.Kind(id)]++
		}
		for range 6 {
			bad := d.spoiled(m)
			want := saidNew(bad)
			count[want.Err]++
			if want.Err != api.OK {
				holdFault(t, bad, want)
			} else {
				table(t, bad)
			}
		}
	}
	for _, e := range []api.Errno{api.OK, api.ErrNoType, api.ErrSame, api.ErrSize, api.ErrLarge} {
		if count[e] < 100 {
			t.Errorf("%d of the error %d", count[e], e)
		}
	}
	for k := uint8(1); k <= 8; k++ {
		if kinds[k] < 300 {
			t.Errorf("%d of the kind %d", kinds[k], k)
		}
	}
}

// P10.1: small modules, all of them: a line of each operation, with all ids that stand ahead.
func TestSmall(t *testing.T) {
	ahead := slices.Concat(front, others)
	var made []string
	for id := 1; id <= 16; id++ {
		made = append(made, "%"+strconv.Itoa(id))
	}
	for _, a := range made {
		for _, b := range made {
			for _, line := range []string{"OpTypeArray " + a + " " + b, "OpTypeStruct " + a + " " + b, "OpTypeFunction " + a + " " + b} {
				m := modelled(append(slices.Clone(ahead), "%30 = "+line)...)
				if _, s := New(m); s != saidNew(m) {
					t.Errorf("%s: %v; not %v", line, s, saidNew(m))
				}
			}
		}
		for _, n := range []string{"0", "1", "2", "3", "4", "5"} {
			m := modelled(append(slices.Clone(ahead), "%30 = OpTypeVector "+a+" "+n)...)
			if _, s := New(m); s != saidNew(m) {
				t.Errorf("OpTypeVector %s %s: %v; not %v", a, n, s, saidNew(m))
			}
		}
		for _, class := range []string{"Input", "Output", "Private", "Function"} {
			m := modelled(append(slices.Clone(ahead), "%30 = OpTypePointer "+class+" "+a)...)
			if _, s := New(m); s != saidNew(m) {
				t.Errorf("OpTypePointer %s %s: %v; not %v", class, a, s, saidNew(m))
			}
		}
	}
}

// R4: of no table there is nothing.
func TestNil(t *testing.T) {
	var x *Table
	if l := x.Ids(); len(l) != 0 {
		t.Errorf("Ids: %v", l)
	}
	for _, id := range append(noIds(), 1, 2, 3, 4, 5, 6, 7, 8) {
		holdNothing(t, x, id)
	}
}

// anyModule is a module of whatever instructions.
func (d *dice) anyModule() api.Module {
	m := api.Module{Bound: d.oneOf(0, 1, 9, 9, 9, 9, api.MaxBound, api.MaxBound+1, math.MaxUint32)}
	if d.below(4) > 0 {
		m.Insts = append(m.Insts, model())
	}
	for range d.below(6) {
		i := inst(uint16(d.oneOf(19, 20, 21, 23, 28, 30, 32, 33, 43, uint32(d.below(1<<16)))), 0, 1+uint32(d.below(8)))
		if f, is := grammar.Of(i.Op); is && f.Type || d.below(9) == 0 {
			i.Type = 1 + uint32(d.below(8))
		}
		f, _ := grammar.Of(i.Op)
		for at, letter := range []byte(f.Fixed + f.Rest) {
			if at >= len(f.Fixed) && d.below(2) == 0 || d.below(30) == 0 {
				break
			}
			a := api.Arg{Kind: grammar.Kind(letter), N: d.oneOf(1, 1, 2, 3, 4, 7, 32, uint32(d.below(1<<31)))}
			if d.below(30) == 0 {
				a.Kind = uint8(d.below(6))
			}
			i.Args = append(i.Args, a)
		}
		m.Insts = append(m.Insts, i)
	}
	return m
}

// R1, R2: every call ends, and none panics, whatever the module, the id and the number; beside an error there is no table.
func TestWhatever(t *testing.T) {
	d := dice(102)
	asked, sound := 0, 0
	for range 30000 {
		m := d.anyModule()
		x, s := New(m)
		if (x == nil) != (s.Err != api.OK) {
			t.Fatalf("New: %v, %v of %v", x, s, m)
		}
		if below := ids.Check(m); below.Err != api.OK && s != below {
			t.Fatalf("New: %v; ids.Check: %v", s, below)
		} else if below.Err == api.OK {
			asked++
			if want := saidNew(m); s != want {
				t.Fatalf("New: %v; not %v, of %v", s, want, m)
			}
		}
		if x == nil {
			continue
		}
		sound++
		holdSaid(t, x, module(12, m.Insts...))
	}
	if asked < 300 || sound < 100 {
		t.Errorf("%d of sound ids, %d of sound types", asked, sound)
	}
}

// R1: types that stand in one another very often: what they are is told as fast.
func TestManyInOneAnother(t *testing.T) {
	l := []api.Inst{model(), inst(20, 0, 1)}
	add := func(op uint16, args ...api.Arg) uint32 {
		id := uint32(len(l))
		l = append(l, inst(op, 0, id, args...))
		return id
	}
	last := uint32(1)
	for range 12 {
		last = add(30, anId(last), anId(last))
	}
	for len(l) < api.MaxBound {
		add(30, anId(last))
	}
	m := module(api.MaxBound, l...)
	x := table(t, m)
	if x.Size(last) != 4096 || x.Size(65535) != 4096 || !x.Alike(65535, 65534) || x.Alike(65535, last) {
		t.Error("structs in one another")
	}
	s, _ := x.Text(65535)
	if s[:14] != "struct(struct(" || len(s) != 8+4095*(len("struct(")+len(",")+len(")"))+4096*len("bool") {
		t.Errorf("a text of %d bytes", len(s))
	}
	m.Insts[65535].Args = []api.Arg{anId(last), anId(1)}
	holdFault(t, m, spot(api.ErrSize, 65535))
}

// overwrite writes over all of a module's lists, the room behind their ends too.
func overwrite(m api.Module) {
	for at := range m.Insts {
		args := m.Insts[at].Args
		args = args[:cap(args)]
		for k := range args {
			args[k] = api.Arg{Kind: 77, N: 77, S: "over"}
		}
	}
	l := m.Insts[:cap(m.Insts)]
	for at := range l {
		l[at] = api.Inst{Op: 77}
	}
}

// R3: what is handed in is not changed, the room behind a list's end neither; and it is not kept.
func TestHandedIn(t *testing.T) {
	for _, want := range []api.Module{many(), examples(), fronted("%6 = OpTypeStruct %5")} {
		m := api.Module{Generator: want.Generator, Bound: want.Bound, Insts: make([]api.Inst, 0, len(want.Insts)+1)}
		behind := []api.Arg{aText("behind"), anId(77)}
		for _, i := range want.Insts {
			i.Args = append(slices.Clone(i.Args), behind...)[:len(i.Args)]
			m.Insts = append(m.Insts, i)
		}
		m.Insts[:len(m.Insts)+1][len(m.Insts)] = inst(77, 7, 7)
		x, s := New(m)
		if !same(m, want) || m.Insts[:len(m.Insts)+1][len(m.Insts)].Op != 77 {
			t.Fatal("what was handed in is changed")
		}
		for at, i := range m.Insts {
			if !slices.Equal(i.Args[:len(i.Args)+2][len(i.Args):], behind) {
				t.Fatalf("the room behind the arguments of %d is changed", at)
			}
		}
		if s.Err != api.OK {
			continue
		}
		overwrite(m)
		holdSaid(t, x, want)
	}
}

// R3, R5: the list of ids is new memory at every call: what is done to it changes nothing.
func TestIdsAreNew(t *testing.T) {
	m := many()
	x := table(t, m)
	a, b := x.Ids(), x.Ids()
	clear(a[:cap(a)])
	holdSaid(t, x, m)
	if b[0] != 1 {
		t.Error("two answers share memory")
	}
	_ = append(b[:3], 77, 77)
	holdSaid(t, x, m)
}

// R3: nil and empty lists are one.
func TestNilAndEmpty(t *testing.T) {
	m := many()
	for at, i := range m.Insts {
		if len(i.Args) == 0 {
			m.Insts[at].Args = []api.Arg{}
		}
	}
	holdSaid(t, table(t, m), many())
	holdFault(t, module(9, model(), inst(30, 0, 1)), spot(api.ErrSize, 1))
	holdFault(t, module(9, model(), api.Inst{Op: 30, Result: 1, Args: []api.Arg{}}), spot(api.ErrSize, 1))
}

// R5: several goroutines may ask a table at one time, and make tables; whatever else was asked.
func TestManyAsk(t *testing.T) {
	m, other := many(), examples()
	x, y := table(t, m), table(t, other)
	bad := fronted("%6 = OpTypeInt 16 0")
	var done sync.WaitGroup
	for range 8 {
		done.Go(func() {
			for range 3 {
				for id := range m.Bound {
					x.Alike(id, 8)
					x.Part(id, 1)
				}
				if s, _ := x.Text(33); s != saidText(m, 33) {
					t.Errorf("Text: %s", s)
				}
				if s, _ := y.Text(8); s != saidText(other, 8) {
					t.Errorf("Text: %s", s)
				}
				if n, _ := x.Offset(16, 4); n != 14 {
					t.Errorf("Offset: %d", n)
				}
				if l := x.Ids(); len(l) != 28 {
					t.Errorf("Ids: %v", l)
				}
				if _, s := New(bad); s != spot(api.ErrSize, next) {
					t.Errorf("New: %v", s)
				}
				if z, s := New(m); s.Err != api.OK || !slices.Equal(texts(z), texts(x)) {
					t.Errorf("New: %v", s)
				}
			}
		})
	}
	done.Wait()
}
