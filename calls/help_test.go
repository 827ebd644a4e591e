package calls

import (
	"math"
	"slices"
	"strconv"
	"strings"
	"testing"

	"intaglio/api"
	"intaglio/asm"
	"intaglio/layout"
)

// spot is a fault at a place.
func spot(e api.Errno, at int) api.Spot { return api.Spot{Err: e, At: at} }

// anId, anEnum: arguments.
func anId(n uint32) api.Arg { return api.Arg{Kind: api.ArgId, N: n} }

func anEnum(n uint32) api.Arg { return api.Arg{Kind: api.ArgEnum, N: n} }

// row is a list of functions, rows a list of such lists.
func row(l ...int) []int { return l }

func rows(l ...[]int) [][]int { return l }

// noFunctions are numbers that are none of n functions'.
func noFunctions(n int) []int {
	return []int{-1, -2, -64, -4096, math.MinInt32, math.MinInt, n, n + 1, n + 63, n + 64, api.MaxNodes, api.MaxNodes + 1, 1 << 31, 1 << 32, math.MaxInt}
}

// callsOf is the Calls of rows that do not go round.
func callsOf(t *testing.T, next [][]int) *Calls {
	t.Helper()
	c, e := Of(next)
	if c == nil || e != api.OK {
		t.Fatalf("Of: %d, of %d functions", e, len(next))
	}
	return c
}

// holdRefused says whether Of answers that error, and no Calls.
func holdRefused(t *testing.T, e api.Errno, next [][]int) {
	t.Helper()
	if c, got := Of(next); got != e || c != nil {
		t.Errorf("Of %v: %v, %d; not %d", next, c, got, e)
	}
}

// answers are all that a Calls answers of its functions.
type answers struct {
	calls, called, reached [][]int
	deep, order            []int
}

// asked are the answers of a Calls.
func asked(c *Calls) answers {
	a := answers{order: c.Order()}
	for i := range c.Len() {
		a.calls = append(a.calls, c.Calls(i))
		a.called = append(a.called, c.Called(i))
		a.reached = append(a.reached, c.Reached(i))
		a.deep = append(a.deep, c.Deep(i))
	}
	return a
}

// equal says whether answers are the same.
func (a answers) equal(b answers) bool {
	return slices.EqualFunc(a.calls, b.calls, slices.Equal) && slices.EqualFunc(a.called, b.called, slices.Equal) &&
		slices.EqualFunc(a.reached, b.reached, slices.Equal) && slices.Equal(a.deep, b.deep) && slices.Equal(a.order, b.order)
}

// holdNothing says whether a Calls answers nothing of what is no function.
func holdNothing(t *testing.T, c *Calls, i int) {
	t.Helper()
	if len(c.Calls(i)) != 0 || len(c.Called(i)) != 0 || len(c.Reached(i)) != 0 || c.Deep(i) != -1 {
		t.Errorf("of %d: Calls %v, Called %v, Reached %v, Deep %d", i, c.Calls(i), c.Called(i), c.Reached(i), c.Deep(i))
	}
}

// holdCalls says whether a Calls is that of these rows: all that it answers is what the chapter says of them.
func holdCalls(t *testing.T, c *Calls, next [][]int) {
	t.Helper()
	if c.Len() != len(next) {
		t.Fatalf("Len: %d; not %d", c.Len(), len(next))
	}
	if got, want := asked(c), saidAnswers(next); !got.equal(want) {
		t.Fatalf("of %v: %v; not %v", next, got, want)
	}
	for _, i := range noFunctions(len(next)) {
		holdNothing(t, c, i)
	}
}

// holdOf says whether Of of rows answers what the chapter says.
func holdOf(t *testing.T, next [][]int) api.Errno {
	t.Helper()
	e := saidOf(next)
	if e != api.OK {
		holdRefused(t, e, next)
		return e
	}
	holdCalls(t, callsOf(t, next), next)
	return e
}

// parse is the module of lines.
func parse(lines ...string) api.Module {
	m, s := asm.Parse("module 7 999\nOpMemoryModel Logical Simple\n" + strings.Join(lines, "\n"))
	if s.Err != api.OK {
		panic("no module's lines: " + strings.Join(lines, "; "))
	}
	return m
}

// front are the lines with which the modules here begin: the types of nothing, of a function, of a truth, of a number (1 to 4), a truth and a number (5, 6), a variable (8) and the type of a pointer (7).
var front = []string{"%1 = OpTypeVoid", "%2 = OpTypeFunction %1", "%3 = OpTypeBool", "%4 = OpTypeInt 32 0", "%5 = OpConstantTrue %3", "%6 = OpConstant %4 0", "%7 = OpTypePointer Private %4", "%8 = OpVariable %7 Private"}

// functionAt is the place of the first OpFunction behind them.
const functionAt = 9

// module is the module of the front lines and these.
func module(lines ...string) api.Module { return parse(slices.Concat(front, lines)...) }

// fun are the lines of a function of one block: its id, the lines of the block between the label and the last instruction. The label is the next id behind its own.
func fun(id int, lines ...string) []string {
	begin := []string{"%" + strconv.Itoa(id) + " = OpFunction %1 None %2", "%" + strconv.Itoa(id+1) + " = OpLabel"}
	return slices.Concat(begin, lines, []string{"OpReturn", "OpFunctionEnd"})
}

// call is the line of a call: its own id, that of what it calls, and more arguments.
func call(id, called int, more ...string) string {
	return strings.Join(append([]string{"%" + strconv.Itoa(id) + " = OpFunctionCall %1 %" + strconv.Itoa(called)}, more...), " ")
}

// holdNew says whether New of a module answers the Calls of these rows.
func holdNew(t *testing.T, m api.Module, next [][]int) {
	t.Helper()
	c, s := New(m)
	if s != (api.Spot{}) || c == nil {
		t.Fatalf("New: %v, of %v", s, m)
	}
	holdCalls(t, c, next)
}

// holdFault says whether New answers that fault, and nothing beside it.
func holdFault(t *testing.T, m api.Module, want api.Spot) {
	t.Helper()
	if c, s := New(m); s != want || c != nil {
		t.Errorf("New: %v, %v; not %v", c, s, want)
	}
}

// holdModule says whether New of a module answers what the chapter says.
func holdModule(t *testing.T, m api.Module) api.Spot {
	t.Helper()
	next, s := saidNew(m)
	if s.Err != api.OK {
		holdFault(t, m, s)
		return s
	}
	holdNew(t, m, next)
	return s
}

// callAt is the place of the instruction that makes an id.
func callAt(m api.Module, id uint32) int {
	return slices.IndexFunc(m.Insts, func(i api.Inst) bool { return i.Result == id })
}

// functionCount is how many functions a module in order has.
func functionCount(t *testing.T, m api.Module) int {
	t.Helper()
	l, s := layout.Cut(m)
	if s.Err != api.OK {
		t.Fatalf("layout.Cut: %v", s)
	}
	return len(l)
}

// apart is a module with lists of its own.
func apart(m api.Module) api.Module {
	m.Insts = slices.Clone(m.Insts)
	for at := range m.Insts {
		m.Insts[at].Args = slices.Clone(m.Insts[at].Args)
	}
	return m
}

// apartRows are rows of their own.
func apartRows(next [][]int) [][]int {
	next = slices.Clone(next)
	for i := range next {
		next[i] = slices.Clone(next[i])
	}
	return next
}

// same holds modules against each other, field by field.
func same(a, b api.Module) bool {
	return a.Generator == b.Generator && a.Bound == b.Bound && slices.EqualFunc(a.Insts, b.Insts, func(x, y api.Inst) bool {
		return x.Op == y.Op && x.Type == y.Type && x.Result == y.Result && slices.Equal(x.Args, y.Args)
	})
}
