package graph

import (
	"math"
	"slices"
	"sync"
	"testing"

	"intaglio/api"
	"intaglio/grammar"
	"intaglio/ids"
)

// anyNode is a number, often one at an edge.
func (d *dice) anyNode(n int) int {
	if d.below(3) > 0 {
		return d.below(n + 1)
	}
	l := noNodes(n)
	return l[d.below(len(l))]
}

// R1, R2: every call ends, and none panics, whatever the edges and the node asked for.
func TestWhateverEdges(t *testing.T) {
	d := dice(151)
	count := map[api.Errno]int{}
	for range 20000 {
		n := d.below(6)
		next := make([][]int, n)
		right := true
		for i := range next {
			for range d.below(3) {
				to := d.below(n)
				if d.below(12) == 0 {
					to = d.anyNode(n)
				}
				right = right && 0 <= to && to < n
				next[i] = append(next[i], to)
			}
		}
		g, e := Of(next)
		want := api.OK
		if n == 0 {
			want = api.ErrArg
		} else if !right {
			want = api.ErrEdge
		}
		if e != want || (g == nil) != (e != api.OK) {
			t.Fatalf("Of %v: %v, %d; not %d", next, g, e, want)
		}
		count[e]++
		for range 5 {
			i := d.anyNode(n)
			g.Next(i)
			g.Ahead(i)
			g.Reached(i)
		}
		if g != nil {
			holdGraph(t, g, next)
		}
	}
	if count[api.OK] < 1000 || count[api.ErrEdge] < 1000 || count[api.ErrArg] < 1000 {
		t.Errorf("%v", count)
	}
}

// anyNumber is a word, often one at an edge.
func (d *dice) anyNumber() uint32 {
	if d.below(4) == 0 {
		return []uint32{0, 99, api.MaxBound - 1, api.MaxBound, 1 << 31, math.MaxUint32}[d.below(6)]
	}
	return uint32(d.below(20))
}

// anyInst is whatever instruction: mostly one of those that lead somewhere.
func (d *dice) anyInst() api.Inst {
	i := api.Inst{Op: []uint16{246, 247, 248, 249, 250, 251, 253, 54, 56, uint16(d.below(1 << 16))}[d.below(10)]}
	f, _ := grammar.Of(i.Op)
	for _, letter := range []byte(f.Fixed + f.Rest) {
		i.Args = append(i.Args, api.Arg{Kind: grammar.Kind(letter), N: d.anyNumber()})
	}
	for range d.below(5) / 3 {
		i.Args = append(i.Args, api.Arg{Kind: uint8(d.below(6)), N: d.anyNumber(), S: []string{"", "a", "\x00"}[d.below(3)]})
	}
	i.Args = i.Args[:len(i.Args)-d.below(len(i.Args)+1)/3]
	if f.Result || d.below(9) == 0 {
		i.Result = d.anyNumber()
	}
	if f.Type || d.below(9) == 0 {
		i.Type = d.anyNumber()
	}
	return i
}

// anyFunc is whatever function: mostly one of some that there are, with a field that is another one.
func (d *dice) anyFunc(l []api.Func) api.Func {
	if len(l) == 0 || d.below(8) == 0 {
		return api.Func{Id: d.anyNumber(), At: d.anyNode(9), End: d.anyNode(9), Params: make([]int, d.below(3)), Blocks: make([]api.Block, d.below(3))}
	}
	f := apartFunc(l[d.below(len(l))])
	b := &f.Blocks[d.below(len(f.Blocks))]
	switch d.below(8) {
	case 0:
		f.Id = d.anyNumber()
	case 1:
		f.At = d.anyNode(30)
	case 2:
		f.End = d.anyNode(30)
	case 3:
		f.Params = append(f.Params, d.anyNode(9))
	case 4:
		b.Label = d.anyNumber()
	case 5:
		b.From = d.anyNode(30)
	case 6:
		b.To = d.anyNode(30)
	}
	return f
}

// R1, R2, R8: every call ends, and none panics, whatever the module, the function and the instruction; beside an error all else is zero; what ids.Check says goes ahead.
func TestWhateverModule(t *testing.T) {
	d := dice(152)
	count := map[api.Errno]int{}
	for range 6000 {
		m := d.module(d.below(2) == 0)
		l := functions(t, m)
		for range d.below(3) / 2 {
			at := d.below(len(m.Insts))
			switch d.below(4) {
			case 0:
				m.Insts[at] = d.anyInst()
			case 1:
				m.Insts = slices.Insert(m.Insts, at, d.anyInst())
			case 2:
				m.Insts = slices.Delete(m.Insts, at, at+1)
			case 3:
				m.Bound = d.anyNumber()
			}
		}
		f := d.anyFunc(l)
		g, merges, s := New(m, f)
		if (g == nil) != (s.Err != api.OK) || (len(merges) == 0) != (s.Err != api.OK) {
			t.Fatalf("New: %v, %v, %v", g, merges, s)
		}
		count[s.Err]++
		if below := ids.Check(m); below.Err != api.OK && s != below {
			t.Fatalf("New: %v; ids.Check: %v", s, below)
		} else if below.Err == api.OK {
			is := slices.ContainsFunc(functions(t, m), func(o api.Func) bool { return sameFunc(o, f) })
			if is == (s == spot(api.ErrArg, 0)) {
				t.Fatalf("New: %v of %v, which is a function's: %v", s, f, is)
			}
		}
		Targets(d.anyInst())
	}
	for _, e := range []api.Errno{api.OK, api.ErrArg, api.ErrTarget, api.ErrOrder, api.ErrUnknown, api.ErrOperand} {
		if count[e] < 100 {
			t.Errorf("%d of the error %d", count[e], e)
		}
	}
}

// R1: very many edges between few nodes; what is kept of them is what is asked.
func TestManyEdges(t *testing.T) {
	long := slices.Repeat(row(1, 0), 1<<20)
	g := graphOf(t, edges(long, long))
	holdNothing(t, g, 2)
	if !slices.Equal(g.Next(0), row(1, 0)) || !slices.Equal(g.Ahead(1), row(0, 1)) {
		t.Errorf("%v, %v", g.Next(0), g.Ahead(1))
	}
	long[len(long)-1] = 2
	holdRefused(t, api.ErrEdge, edges(long, long))
}

// R4: of no graph there is nothing.
func TestNil(t *testing.T) {
	var g *Graph
	if g.Len() != 0 || len(g.Order()) != 0 || len(walked(g)) != 0 {
		t.Errorf("Len %d, Order %v, Walk %v", g.Len(), g.Order(), walked(g))
	}
	for _, i := range append(noNodes(1), 0, 1, 2) {
		holdNothing(t, g, i)
	}
	walk := g.Walk()
	for range 2 {
		for i := range walk {
			t.Errorf("Walk tells %d", i)
		}
	}
}

// withRoom is a copy of nodes with room behind their end that says 77.
func withRoom(l []int) []int { return append(slices.Clone(l), 77, 77)[:len(l)] }

// R3: what is handed to Of is not changed and not kept, the room behind a list's end neither.
func TestOfMemory(t *testing.T) {
	for _, next := range append(graphs(), edges(row(0, 9)), edges(row(1))) {
		given := make([][]int, 0, len(next)+1)
		for _, l := range next {
			given = append(given, withRoom(l))
		}
		given = append(given, row(77))[:len(next)]
		g, e := Of(given)
		for i, l := range next {
			if !slices.Equal(given[i], l) || !slices.Equal(given[i][:len(l)+2][len(l):], row(77, 77)) {
				t.Fatalf("what was handed in is changed: %v", given)
			}
		}
		if behind := given[:len(next)+1][len(next)]; !slices.Equal(behind, row(77)) {
			t.Fatalf("the room behind what was handed in is changed: %v", behind)
		}
		if e != api.OK {
			continue
		}
		for i := range given {
			l := given[i][:cap(given[i])]
			for k := range l {
				l[k] = 99
			}
			given[i] = row(5)
		}
		holdGraph(t, g, next)
	}
}

// R3: one list in the place of several is taken for each of them.
func TestOneListForMany(t *testing.T) {
	shared := row(2, 1, 0, 2)
	g := graphOf(t, edges(shared, shared[:2], shared[1:]))
	holdGraph(t, g, edges(row(2, 1, 0, 2), row(2, 1), row(1, 0, 2)))
}

// overwrite writes over a list, and over the room behind its end.
func overwrite(l []int) {
	l = l[:cap(l)]
	for k := range l {
		l[k] = 99
	}
}

// R3: what a graph answers is new memory: what is done to it changes neither the graph nor other answers.
func TestAnswersMemory(t *testing.T) {
	for _, next := range graphs() {
		g := graphOf(t, next)
		first := asked(g)
		for range 2 {
			for i := range next {
				overwrite(g.Next(i))
				overwrite(g.Ahead(i))
			}
			overwrite(g.Order())
			overwrite(walked(g))
			holdGraph(t, g, next)
		}
		if !first.equal(saidAnswers(next)) {
			t.Errorf("answers share memory: %v", first)
		}
	}
}

// R3: what is handed to New is not changed and not kept, the room behind a list's end neither.
func TestNewMemory(t *testing.T) {
	d := dice(153)
	behind := []api.Arg{aText("behind"), anId(77)}
	for n := range 300 {
		want := d.module(n%2 == 0)
		for _, f := range functions(t, want) {
			m := apart(want)
			for at, i := range m.Insts {
				m.Insts[at].Args = append(i.Args, behind...)[:len(i.Args)]
			}
			m.Insts = append(m.Insts, inst(77, 7))[:len(want.Insts)]
			h := apartFunc(f)
			h.Params = append(h.Params, 77)[:len(f.Params)]
			h.Blocks = append(h.Blocks, api.Block{Label: 77})[:len(f.Blocks)]
			g, l, s := New(m, h)
			if !same(m, want) || m.Insts[:len(m.Insts)+1][len(m.Insts)].Op != 77 || !sameFunc(f, h) {
				t.Fatal("what was handed in is changed")
			}
			if h.Params[:len(f.Params)+1][len(f.Params)] != 77 || h.Blocks[:len(f.Blocks)+1][len(f.Blocks)].Label != 77 {
				t.Fatal("the room behind the function's lists is changed")
			}
			for at, i := range m.Insts {
				if !slices.Equal(i.Args[:len(i.Args)+2][len(i.Args):], behind) {
					t.Fatalf("the room behind the arguments of %d is changed", at)
				}
				clear(i.Args[:cap(i.Args)])
			}
			clear(m.Insts)
			clear(h.Params)
			clear(h.Blocks)
			next, merges, spot := saidNew(want, f)
			if s != spot || !slices.Equal(l, merges) {
				t.Fatalf("New: %v, %v; not %v, %v", l, s, merges, spot)
			}
			if g != nil {
				holdGraph(t, g, next)
			}
		}
	}
}

// R3: the merges are new memory at every call.
func TestMergesMemory(t *testing.T) {
	m := several()
	f := functions(t, m)[2]
	g, l, _ := New(m, f)
	_, again, _ := New(m, f)
	clear(again[:cap(again)])
	if !slices.Equal(l, merges(none(), none())) {
		t.Errorf("two answers share memory: %v", l)
	}
	clear(l[:cap(l)])
	holdGraph(t, g, edges(row(1), row(1)))
	holdFunction(t, m, f, edges(row(1), row(1)), merges(none(), none()))
}

// R5: several goroutines may ask a graph at one time, and make graphs; whatever else was asked.
func TestManyAsk(t *testing.T) {
	d := dice(154)
	next := d.edges(70)
	g := graphOf(t, next)
	want := asked(g)
	m := several()
	l := functions(t, m)
	var done sync.WaitGroup
	for range 8 {
		done.Go(func() {
			for range 20 {
				if !asked(g).equal(want) {
					t.Error("other answers")
				}
				if h, e := Of(next); e != api.OK || !asked(h).equal(want) {
					t.Error("another graph")
				}
				for n, f := range l {
					if h, merges, s := New(m, f); s.Err != api.OK || h.Len() != len(merges) || h.Len() != []int{2, 1, 2}[n] {
						t.Errorf("New: %v", s)
					}
				}
				for range g.Walk() {
					break
				}
			}
		})
	}
	done.Wait()
}
