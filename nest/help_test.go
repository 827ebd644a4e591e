package nest

import (
	"math"
	"slices"
	"strings"
	"testing"

	"intaglio/api"
	"intaglio/asm"
	"intaglio/graph"
	"intaglio/layout"
)

// spot is a fault at a place.
func spot(e api.Errno, at int) api.Spot { return api.Spot{Err: e, At: at} }

// row is a list of nodes, edges a list of such lists.
func row(l ...int) []int { return l }

func edges(l ...[]int) [][]int { return l }

// no is no merge, sel a selection's, sw a switch's, loop a loop's.
var no = api.Merge{To: -1, Continue: -1}

func sel(to int) api.Merge { return api.Merge{Kind: api.MergeSelection, To: to, Continue: -1} }

func sw(to int) api.Merge { return api.Merge{Kind: api.MergeSwitch, To: to, Continue: -1} }

func loop(to, on int) api.Merge { return api.Merge{Kind: api.MergeLoop, To: to, Continue: on} }

// merges is a list of them; nos are so many times none.
func merges(l ...api.Merge) []api.Merge { return l }

func nos(n int) []api.Merge { return slices.Repeat(merges(no), n) }

// flaw is an error of a node, flaws a list of such.
func flaw(node int, e api.Errno) api.Flaw { return api.Flaw{Block: node, Err: e} }

func flaws(l ...api.Flaw) []api.Flaw { return l }

// The rules' errors.
const (
	bare  = api.ErrBare
	merge = api.ErrMerge
	back  = api.ErrBack
	exit  = api.ErrExit
)

// noNodes are numbers that are no node's of a graph of n nodes.
func noNodes(n int) []int {
	return []int{-1, -2, -64, -4096, math.MinInt32, math.MinInt, n, n + 1, n + 63, n + 64, api.MaxNodes, api.MaxNodes + 1, 1 << 31, 1 << 32, math.MaxInt}
}

// graphOf is the graph of edges that are some graph's.
func graphOf(t *testing.T, next [][]int) *graph.Graph {
	t.Helper()
	g, e := graph.Of(next)
	if g == nil || e != api.OK {
		t.Fatalf("graph.Of: %d, of %d nodes", e, len(next))
	}
	return g
}

// plan is a graph's edges, and its merges.
type plan struct {
	next   [][]int
	merges []api.Merge
}

// clone is a plan with lists of its own.
func (p plan) clone() plan {
	p.next, p.merges = slices.Clone(p.next), slices.Clone(p.merges)
	for i, l := range p.next {
		p.next[i] = slices.Clone(l)
	}
	return p
}

// answers are all that the calls answer of a graph and merges that fit.
type answers struct {
	check      api.Spot
	flaws      []api.Flaw
	constructs [][]int
	kinds      []api.Errno // what Construct answers beside it
	inner      []int
}

// asked are these answers.
func asked(t *testing.T, g *graph.Graph, l []api.Merge) answers {
	t.Helper()
	a := answers{check: Check(g, l)}
	var e api.Errno
	if a.flaws, e = Flaws(g, l); e != api.OK {
		t.Fatalf("Flaws: %d", e)
	}
	for i := range l {
		nodes, e := Construct(g, l, i)
		a.constructs, a.kinds = append(a.constructs, nodes), append(a.kinds, e)
		head, e := Inner(g, l, i)
		if e != api.OK {
			t.Fatalf("Inner(%d): %d", i, e)
		}
		a.inner = append(a.inner, head)
	}
	return a
}

// equal says whether answers are the same.
func (a answers) equal(b answers) bool {
	return a.check == b.check && slices.Equal(a.flaws, b.flaws) && slices.Equal(a.kinds, b.kinds) && slices.Equal(a.inner, b.inner) &&
		slices.EqualFunc(a.constructs, b.constructs, slices.Equal)
}

// holdPlan says whether all that is answered of a plan is what the chapter says of it; it answers the flaws.
func holdPlan(t *testing.T, p plan) []api.Flaw {
	t.Helper()
	got, want := asked(t, graphOf(t, p.next), p.merges), saidAnswers(p)
	if !got.equal(want) {
		t.Fatalf("of %v: %v; not %v", p, got, want)
	}
	return got.flaws
}

// holdFlaws says whether a plan has these flaws, and Check tells the first of them.
func holdFlaws(t *testing.T, next [][]int, l []api.Merge, want ...api.Flaw) {
	t.Helper()
	g := graphOf(t, next)
	if got, e := Flaws(g, l); e != api.OK || !slices.Equal(got, want) {
		t.Errorf("Flaws of %v, %v: %v, %d; not %v", few(next), few(l), few(got), e, few(want))
	}
	first := api.Spot{}
	if len(want) > 0 {
		first = spot(want[0].Err, want[0].Block)
	}
	if s := Check(g, l); s != first {
		t.Errorf("Check of %v, %v: %v; not %v", few(next), few(l), s, first)
	}
}

// few are so many of a list that they can be read.
func few[T any](l []T) []T { return l[:min(40, len(l))] }

// holdRefused says whether each call answers that error of a graph and merges, whatever the node; and nothing beside it.
func holdRefused(t *testing.T, g *graph.Graph, l []api.Merge, want api.Errno) {
	t.Helper()
	if s := Check(g, l); s != spot(want, 0) {
		t.Errorf("Check: %v; not %d at 0", s, want)
	}
	if got, e := Flaws(g, l); e != want || len(got) != 0 {
		t.Errorf("Flaws: %v, %d; not %d", got, e, want)
	}
	for _, i := range append(noNodes(len(l)), 0, 1, len(l)-1) {
		if nodes, e := Construct(g, l, i); e != want || len(nodes) != 0 {
			t.Errorf("Construct(%d): %v, %d; not %d", i, nodes, e, want)
		}
		if head, e := Inner(g, l, i); e != want || head != 0 {
			t.Errorf("Inner(%d): %d, %d; not %d", i, head, e, want)
		}
	}
}

// read is the module of lines.
func read(lines ...string) api.Module {
	m, s := asm.Parse("module 7 99\nOpMemoryModel Logical Simple\n" + strings.Join(lines, "\n"))
	if s.Err != api.OK {
		panic("no module's lines: " + strings.Join(lines, "; "))
	}
	return m
}

// front are the lines with which the modules here begin: the types of nothing, of a function, of a truth, of a number (1 to 4), a truth and a number (5, 6).
var front = []string{"%1 = OpTypeVoid", "%2 = OpTypeFunction %1", "%3 = OpTypeBool", "%4 = OpTypeInt 32 0", "%5 = OpConstantTrue %3", "%6 = OpConstant %4 0"}

// bodyAt is the place of the first line of the body of the first function behind them.
const bodyAt = 8

// body is the module of the front lines and a function, 9, whose body is these lines.
func body(lines ...string) api.Module {
	all := append(slices.Clone(front), "%9 = OpFunction %1 None %2")
	return read(append(append(all, lines...), "OpFunctionEnd")...)
}

// another are the lines of an end and of another function, 80, up to its body.
var another = []string{"OpFunctionEnd", "%80 = OpFunction %1 None %2"}

// functions are those of a module in order.
func functions(t *testing.T, m api.Module) []api.Func {
	t.Helper()
	l, s := layout.Cut(m)
	if s.Err != api.OK {
		t.Fatalf("layout.Cut: %v, of %v", s, m)
	}
	return l
}

// holdBody says what Module answers of such a module.
func holdBody(t *testing.T, want api.Spot, lines ...string) {
	t.Helper()
	if s := Module(body(lines...)); s != want {
		t.Errorf("Module of %v: %v; not %v", lines, s, want)
	}
}

// apart is a module with lists of its own.
func apart(m api.Module) api.Module {
	m.Insts = slices.Clone(m.Insts)
	for at := range m.Insts {
		m.Insts[at].Args = slices.Clone(m.Insts[at].Args)
	}
	return m
}

// same holds modules against each other, field by field.
func same(a, b api.Module) bool {
	return a.Generator == b.Generator && a.Bound == b.Bound && slices.EqualFunc(a.Insts, b.Insts, func(x, y api.Inst) bool {
		return x.Op == y.Op && x.Type == y.Type && x.Result == y.Result && slices.Equal(x.Args, y.Args)
	})
}
