package graph

import (
	"math"
	"slices"
	"strconv"
	"strings"
	"testing"

	"intaglio/api"
	"intaglio/asm"
	"intaglio/layout"
)

// spot is a fault at a place.
func spot(e api.Errno, at int) api.Spot { return api.Spot{Err: e, At: at} }

// anId, aNumber, anEnum, aText: arguments.
func anId(n uint32) api.Arg { return api.Arg{Kind: api.ArgId, N: n} }

func aNumber(n uint32) api.Arg { return api.Arg{Kind: api.ArgNumber, N: n} }

func anEnum(n uint32) api.Arg { return api.Arg{Kind: api.ArgEnum, N: n} }

func aText(s string) api.Arg { return api.Arg{Kind: api.ArgText, S: s} }

// inst is an instruction without a type.
func inst(op uint16, result uint32, l ...api.Arg) api.Inst {
	return api.Inst{Op: op, Result: result, Args: l}
}

// row is a list of nodes, edges a list of such lists.
func row(l ...int) []int { return l }

func edges(l ...[]int) [][]int { return l }

// example is the edges of the chapter's graph G.
func example() [][]int { return edges(row(2, 1, 2), row(3), row(3, 1), row(), row(0)) }

// noNodes are numbers that are no node's of a graph of n nodes.
func noNodes(n int) []int {
	return []int{-1, -2, -64, -4096, math.MinInt32, math.MinInt, n, n + 1, n + 63, n + 64, api.MaxNodes, api.MaxNodes + 1, 1 << 31, 1 << 32, math.MaxInt}
}

// graphOf is the graph of edges that are some graph's.
func graphOf(t *testing.T, next [][]int) *Graph {
	t.Helper()
	g, e := Of(next)
	if g == nil || e != api.OK {
		t.Fatalf("Of: %d, of %d nodes", e, len(next))
	}
	return g
}

// holdRefused says whether Of answers that error, and no graph.
func holdRefused(t *testing.T, e api.Errno, next [][]int) {
	t.Helper()
	if g, got := Of(next); got != e || g != nil {
		t.Errorf("Of: %v, %d; not %d", g, got, e)
	}
}

// walked are the nodes that Walk tells.
func walked(g *Graph) []int { return slices.Collect(g.Walk()) }

// answers are all that a graph answers of its nodes.
type answers struct {
	next, ahead [][]int
	reached     []bool
	walk, order []int
}

// asked are the answers of a graph.
func asked(g *Graph) answers {
	a := answers{walk: walked(g), order: g.Order()}
	for i := range g.Len() {
		a.next = append(a.next, g.Next(i))
		a.ahead = append(a.ahead, g.Ahead(i))
		a.reached = append(a.reached, g.Reached(i))
	}
	return a
}

// equal says whether answers are the same.
func (a answers) equal(b answers) bool {
	return slices.EqualFunc(a.next, b.next, slices.Equal) && slices.EqualFunc(a.ahead, b.ahead, slices.Equal) &&
		slices.Equal(a.reached, b.reached) && slices.Equal(a.walk, b.walk) && slices.Equal(a.order, b.order)
}

// holdNothing says whether a graph answers nothing of what is no node.
func holdNothing(t *testing.T, g *Graph, i int) {
	t.Helper()
	if next, ahead := g.Next(i), g.Ahead(i); len(next) != 0 || len(ahead) != 0 || g.Reached(i) {
		t.Errorf("of %d: Next %v, Ahead %v, Reached %v", i, next, ahead, g.Reached(i))
	}
}

// holdGraph says whether a graph is that of these edges: all that it answers is what the chapter says of them.
func holdGraph(t *testing.T, g *Graph, next [][]int) {
	t.Helper()
	if g.Len() != len(next) {
		t.Fatalf("Len: %d; not %d", g.Len(), len(next))
	}
	if got, want := asked(g), saidAnswers(next); !got.equal(want) {
		t.Fatalf("of %v: %v; not %v", next, got, want)
	}
	for _, i := range noNodes(len(next)) {
		holdNothing(t, g, i)
	}
}

// read is the module of lines.
func read(lines ...string) api.Module {
	m, s := asm.Parse("module 7 99\nOpMemoryModel Logical Simple\n" + strings.Join(lines, "\n"))
	if s.Err != api.OK {
		panic("no module's lines: " + strings.Join(lines, "; "))
	}
	return m
}

// front are the lines with which the modules here begin: the types of nothing, of a function, of a truth, of a number (1 to 4), a truth and a number (5, 6).
var front = []string{"%1 = OpTypeVoid", "%2 = OpTypeFunction %1", "%3 = OpTypeBool", "%4 = OpTypeInt 32 0", "%5 = OpConstantTrue %3", "%6 = OpConstant %4 0"}

// functionAt is the place of the OpFunction behind them, bodyAt that of the first line of its body.
const (
	functionAt = 7
	bodyAt     = 8
)

// body is the module of the front lines and a function, 9, whose body is these lines.
func body(lines ...string) api.Module {
	all := append(slices.Clone(front), "%9 = OpFunction %1 None %2")
	return read(append(append(all, lines...), "OpFunctionEnd")...)
}

// another are the lines of an end and of another function, 80, up to its body.
var another = []string{"OpFunctionEnd", "%80 = OpFunction %1 None %2"}

// functions are those of a module in order.
func functions(t *testing.T, m api.Module) []api.Func {
	t.Helper()
	l, s := layout.Cut(m)
	if s.Err != api.OK {
		t.Fatalf("layout.Cut: %v, of %v", s, m)
	}
	return l
}

// holdFault says whether New answers that fault of a function, and nothing beside it.
func holdFault(t *testing.T, m api.Module, f api.Func, want api.Spot) {
	t.Helper()
	if g, l, s := New(m, f); s != want || g != nil || len(l) != 0 {
		t.Errorf("New: %v, %v, %v; not %v", g, l, s, want)
	}
}

// holdBody says whether the first function of such a module has that fault.
func holdBody(t *testing.T, want api.Spot, lines ...string) {
	t.Helper()
	m := body(lines...)
	holdFault(t, m, functions(t, m)[0], want)
}

// holdFunction says whether New of a function answers these edges and merges.
func holdFunction(t *testing.T, m api.Module, f api.Func, next [][]int, merges []api.Merge) {
	t.Helper()
	g, l, s := New(m, f)
	if s != (api.Spot{}) || g == nil {
		t.Fatalf("New: %v, of %v", s, m)
	}
	holdGraph(t, g, next)
	if !slices.Equal(l, merges) {
		t.Errorf("merges: %v; not %v", l, merges)
	}
}

// holdNew says the same of the first function of such a module.
func holdNew(t *testing.T, next [][]int, merges []api.Merge, lines ...string) {
	t.Helper()
	m := body(lines...)
	holdFunction(t, m, functions(t, m)[0], next, merges)
}

// none, selection, choice, loop: merges.
func none() api.Merge { return api.Merge{Kind: 0, To: -1, Continue: -1} }

func selection(to int) api.Merge { return api.Merge{Kind: 1, To: to, Continue: -1} }

func choice(to int) api.Merge { return api.Merge{Kind: 3, To: to, Continue: -1} }

func loop(to, on int) api.Merge { return api.Merge{Kind: 2, To: to, Continue: on} }

// merges is a list of them.
func merges(l ...api.Merge) []api.Merge { return l }

// label is the line of a label.
func label(id int) string { return "%" + strconv.Itoa(id) + " = OpLabel" }

// apart is a module with lists of its own.
func apart(m api.Module) api.Module {
	m.Insts = slices.Clone(m.Insts)
	for at := range m.Insts {
		m.Insts[at].Args = slices.Clone(m.Insts[at].Args)
	}
	return m
}

// same holds modules against each other, field by field.
func same(a, b api.Module) bool {
	return a.Generator == b.Generator && a.Bound == b.Bound && slices.EqualFunc(a.Insts, b.Insts, func(x, y api.Inst) bool {
		return x.Op == y.Op && x.Type == y.Type && x.Result == y.Result && slices.Equal(x.Args, y.Args)
	})
}

// apartFunc is a function with lists of its own.
func apartFunc(f api.Func) api.Func {
	f.Params, f.Blocks = slices.Clone(f.Params), slices.Clone(f.Blocks)
	return f
}
