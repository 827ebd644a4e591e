package consts

import (
	"math"
	"slices"
	"strings"
	"sync"
	"testing"

	"intaglio/api"
	"intaglio/grammar"
	"intaglio/types"
)

// P11.1 to P11.4: modules made by chance, whose constants are sound, and others, held against the chapter's words.
func TestByChance(t *testing.T) {
	d := dice(111)
	count, names := map[api.Errno]int{}, map[string]int{}
	for range 500 {
		m := d.sound()
		holdSaid(t, pool(t, m), m)
		for _, i := range m.Insts {
			names[saidName(i)]++
		}
		for range 6 {
			bad := d.spoiled(m)
			want := saidNew(bad)
			count[want.Err]++
			if want.Err != api.OK {
				holdFault(t, bad, want)
			} else {
				pool(t, bad)
			}
		}
	}
	for _, e := range []api.Errno{api.OK, api.ErrNoType, api.ErrNoConst, api.ErrValue, api.ErrStore, api.ErrSame, api.ErrSize} {
		if count[e] < 50 {
			t.Errorf("%d of the error %d", count[e], e)
		}
	}
	for _, name := range strings.Fields("OpUndef OpConstantTrue OpConstantFalse OpConstant OpConstantComposite OpConstantNull OpVariable") {
		if names[name] < 250 {
			t.Errorf("%d of %s", names[name], name)
		}
	}
}

// P11.1: a line of each operation, with all ids that stand ahead.
func TestSmall(t *testing.T) {
	ahead := []string{"%21 = OpConstantNull %6", "%22 = OpUndef %9", "%23 = OpVariable %11 Private", "%24 = OpConstant %4 1"}
	var made []string
	for _, line := range append(slices.Clone(front), ahead...) {
		made = append(made, line[:strings.IndexByte(line, ' ')])
	}
	made = append(made, "%20")
	for _, a := range made {
		lines := []string{"OpUndef " + a, "OpConstantNull " + a, "OpConstantTrue " + a, "OpConstantFalse " + a, "OpConstant " + a + " 2", "OpConstantComposite " + a, "OpVariable " + a + " Private", "OpVariable " + a + " Output", "OpVariable " + a + " Input"}
		for _, b := range made {
			lines = append(lines, "OpConstantComposite "+a+" "+b, "OpConstantComposite %6 "+a+" "+b, "OpConstantComposite %7 %19 "+a+" "+b+" %19", "OpVariable "+a+" Private "+b, "OpVariable "+a+" Output "+b, "OpVariable "+a+" Input "+b)
		}
		for _, line := range lines {
			m := fronted(append(slices.Clone(ahead), "%50 = "+line)...)
			if _, s := New(m); s != saidNew(m) {
				t.Errorf("%s: %v; not %v", line, s, saidNew(m))
			}
		}
	}
}

// R4: of no pool there is nothing.
func TestNil(t *testing.T) {
	var p *Pool
	if p.Types() != nil || len(p.Ids()) != 0 || len(p.Variables()) != 0 {
		t.Errorf("of no pool: %v, %v, %v", p.Types(), p.Ids(), p.Variables())
	}
	for _, id := range append(noIds(), 1, 2, 3, 5, 18, 19) {
		holdNoValue(t, p, id)
		holdNoVariable(t, p, id)
		holdFound(t, p, 0, id)
		holdFound(t, p, 0, id, 0)
		holdFound(t, p, 0, id, 7)
	}
}

// anyModule is a module of whatever instructions.
func (d *dice) anyModule() api.Module {
	m := api.Module{Bound: d.oneOf(0, 1, 9, 9, 9, 9, 9, 9, api.MaxBound, api.MaxBound+1, math.MaxUint32)}
	if d.below(6) > 0 {
		m.Insts = append(m.Insts, model())
	}
	if d.below(4) > 0 {
		m.Insts = append(m.Insts, inst(20, 0, 1), inst(21, 0, 2, aNumber(32), aNumber(0)))
	}
	for range d.below(5) {
		i := inst(uint16(d.oneOf(1, 41, 42, 43, 44, 46, 59, 23, 30, 32, uint32(d.below(1<<16)))), 0, 1+uint32(d.below(8)))
		f, is := grammar.Of(i.Op)
		if is && f.Type || d.below(20) == 0 {
			i.Type = 1 + uint32(d.below(4))
		}
		for at, letter := range []byte(f.Fixed + f.Rest) {
			if at >= len(f.Fixed) && d.below(2) == 0 || d.below(40) == 0 {
				break
			}
			a := api.Arg{Kind: grammar.Kind(letter), N: d.oneOf(1, 1, 2, 2, 3, 4, 6, 7)}
			if d.below(40) == 0 {
				a = api.Arg{Kind: uint8(d.below(6)), N: uint32(d.below(1 << 31))}
			}
			i.Args = append(i.Args, a)
		}
		m.Insts = append(m.Insts, i)
	}
	return m
}

// R1, R2: every call ends, and none panics, whatever the module, the id and the words; beside an error there is no pool.
func TestWhatever(t *testing.T) {
	d := dice(112)
	asked, sound := 0, 0
	for range 30000 {
		m := d.anyModule()
		p, s := New(m)
		if (p == nil) != (s.Err != api.OK) {
			t.Fatalf("New: %v of %v", s, m)
		}
		if want := saidNew(m); s != want {
			t.Fatalf("New: %v; not %v, of %v", s, want, m)
		}
		if _, below := types.New(m); below.Err == api.OK {
			asked++
		}
		if p == nil {
			continue
		}
		sound++
		holdSaid(t, p, module(12, m.Insts...))
		for _, id := range noIds() {
			holdNoValue(t, p, id)
			holdNoVariable(t, p, id)
			holdFound(t, p, 0, id, 1, 2, 3)
		}
	}
	if asked < 2000 || sound < 1000 {
		t.Errorf("%d of sound types, %d of sound constants", asked, sound)
	}
}

// R1: as many constants and variables as ids allow, of as many words as there may be, made of one another: they are told as fast as few.
func TestLargest(t *testing.T) {
	l := []api.Inst{model(), inst(20, 0, 1)}
	add := func(op uint16, typeId uint32, args ...api.Arg) uint32 {
		id := uint32(len(l))
		l = append(l, inst(op, typeId, id, args...))
		return id
	}
	last := uint32(1)
	words := add(41, 1)
	for range 12 {
		last = add(30, 0, anId(last), anId(last))
		words = add(44, last, anId(words), anId(words))
	}
	half := l[last].Args[0].N
	null, full := add(46, half), l[words].Args[0].N
	pointer := add(32, 0, anEnum(6), anId(last))
	parts := []uint32{null, full}
	for len(l) < api.MaxBound-2 {
		k := len(parts)
		mixed := add(44, last, anId(parts[k%7%len(parts)]), anId(parts[k%3%len(parts)]))
		add(59, pointer, anEnum(6), anId(mixed))
		if len(parts) < 9 {
			parts = append(parts, add(1, half))
		}
	}
	m := module(api.MaxBound, l...)
	p := pool(t, m)
	row := slices.Repeat([]uint32{1}, 4096)
	holdValue(t, p, words, last, row...)
	holdFound(t, p, words, last, row...)
	clear(row[:2048])
	first, is := p.Find(last, row)
	if _, w, _ := p.Value(first); !is || !slices.Equal(w, row) {
		t.Errorf("Find: %d, %v", first, is)
	}
	row[4095] = 2
	holdFound(t, p, 0, last, row...)
	if n := len(p.Ids()) + len(p.Variables()); n < api.MaxBound-40 {
		t.Errorf("%d constants and variables", n)
	}
}

// overwrite writes over all of a module's lists, the room behind their ends too.
func overwrite(m api.Module) {
	for at := range m.Insts {
		args := m.Insts[at].Args
		args = args[:cap(args)]
		for k := range args {
			args[k] = api.Arg{Kind: 77, N: 77, S: "over"}
		}
	}
	l := m.Insts[:cap(m.Insts)]
	for at := range l {
		l[at] = api.Inst{Op: 77}
	}
}

// R3: what is handed in is not changed, the room behind a list's end neither; and it is not kept.
func TestHandedIn(t *testing.T) {
	for _, want := range []api.Module{many(), fronted(), fronted("%30 = OpConstantComposite %6 %18 %3"), fronted("%30 = OpVariable %11 Private %18")} {
		m := api.Module{Generator: want.Generator, Bound: want.Bound, Insts: make([]api.Inst, 0, len(want.Insts)+1)}
		behind := []api.Arg{aText("behind"), anId(77)}
		for _, i := range want.Insts {
			i.Args = append(slices.Clone(i.Args), behind...)[:len(i.Args)]
			m.Insts = append(m.Insts, i)
		}
		m.Insts[:len(m.Insts)+1][len(m.Insts)] = inst(77, 7, 7)
		p, s := New(m)
		if !same(m, want) || m.Insts[:len(m.Insts)+1][len(m.Insts)].Op != 77 {
			t.Fatal("what was handed in is changed")
		}
		for at, i := range m.Insts {
			if !slices.Equal(i.Args[:len(i.Args)+2][len(i.Args):], behind) {
				t.Fatalf("the room behind the arguments of %d is changed", at)
			}
		}
		if s.Err != api.OK {
			continue
		}
		overwrite(m)
		holdSaid(t, p, want)
	}
}

// R3: the words that Find is handed are not changed, the room behind their end neither, and not kept.
func TestFindHandedIn(t *testing.T) {
	p := pool(t, many())
	for _, w := range [][]uint32{{7, 3, 9, 9}, {0, 0, 9, 9}, {1, 2, 9, 9}} {
		before := slices.Clone(w)
		id, is := p.Find(6, w[:2])
		if !slices.Equal(w, before) {
			t.Fatalf("the words are changed: %v", w)
		}
		clear(w)
		if again, isAgain := p.Find(6, before[:2]); again != id || isAgain != is {
			t.Errorf("Find: %d, then %d", id, again)
		}
	}
	holdSaid(t, p, many())
}

// R3, R5: what is answered is new memory at every call: what is done to it changes nothing.
func TestAnswersAreNew(t *testing.T) {
	m := many()
	p := pool(t, m)
	over := func(l []uint32) {
		l = l[:cap(l)]
		for k := range l {
			l[k] = 77
		}
	}
	for range 2 {
		over(p.Ids())
		over(p.Variables())
		over(p.Types().Ids())
		for id := range m.Bound {
			_, a, _ := p.Value(id)
			_, b, _ := p.Value(id)
			before := slices.Clone(b)
			over(a)
			if !slices.Equal(b, before) {
				t.Fatalf("two answers of Value of %d share memory", id)
			}
			_, _, a, _ = p.Variable(id)
			_, _, b, _ = p.Variable(id)
			before = slices.Clone(b)
			over(a)
			if !slices.Equal(b, before) {
				t.Fatalf("two answers of Variable of %d share memory", id)
			}
		}
		holdSaid(t, p, m)
	}
}

// R3: nil and empty lists are one.
func TestNilAndEmpty(t *testing.T) {
	m := many()
	for at, i := range m.Insts {
		if len(i.Args) == 0 {
			m.Insts[at].Args = []api.Arg{}
		}
	}
	p := pool(t, m)
	holdSaid(t, p, many())
	for _, typeId := range []uint32{0, 1, 2, 6, 15} {
		a, isA := p.Find(typeId, nil)
		if b, isB := p.Find(typeId, []uint32{}); a != b || isA || isB {
			t.Errorf("Find of no words: %d, %d", a, b)
		}
	}
	empty := []api.Inst{model(), inst(21, 0, 1, aNumber(32), aNumber(0)), inst(30, 0, 2, anId(1))}
	holdFault(t, module(9, append(empty, inst(44, 2, 3))...), spot(api.ErrValue, 3))
	holdFault(t, module(9, append(empty, api.Inst{Op: 44, Type: 2, Result: 3, Args: []api.Arg{}})...), spot(api.ErrValue, 3))
}

// R5: several goroutines may ask a pool at one time, and make pools; whatever else was asked.
func TestManyAsk(t *testing.T) {
	m, other := many(), fronted("%30 = OpConstantComposite %6 %18 %5")
	p, q := pool(t, m), pool(t, other)
	bad := fronted("%30 = OpConstantTrue %3")
	var done sync.WaitGroup
	for range 8 {
		done.Go(func() {
			for range 3 {
				holdValue(t, q, 30, 6, 7, 3)
				holdNoValue(t, q, 31)
				holdVariable(t, p, 51, 6, 6, 7, 3)
				for _, id := range p.Ids() {
					typeId, w, _ := p.Value(id)
					if first, is := p.Find(typeId, w); !is || first == 0 {
						t.Errorf("%d is not found", id)
					}
				}
				if l := p.Variables(); len(l) != 8 {
					t.Errorf("Variables: %v", l)
				}
				holdFault(t, bad, spot(api.ErrNoType, next))
				if r, s := New(m); s.Err != api.OK || !slices.Equal(r.Ids(), p.Ids()) || p.Types().Size(10) != 18 {
					t.Errorf("New: %v", s)
				}
			}
		})
	}
	done.Wait()
}
