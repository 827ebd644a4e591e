package calls

import (
	"slices"
	"testing"

	"intaglio/api"
	"intaglio/ids"
)

// The chapter's examples of New, and a call that goes through.
func TestNewExamples(t *testing.T) {
	holdFault(t, module(fun(20, call(30, 20))...), spot(api.ErrCycle, functionAt+2))
	holdFault(t, module(fun(20, call(30, 21))...), spot(api.ErrCall, functionAt+2))
	holdNew(t, module(slices.Concat(fun(20, call(30, 22)), fun(22))...), rows(row(1), row()))
}

// P17.2: modules without functions, without calls, with several.
func TestNewRight(t *testing.T) {
	holdNew(t, parse(), nil)
	holdNew(t, module(), nil)
	holdNew(t, module(fun(20)...), rows(row()))
	holdNew(t, module(slices.Concat(fun(20), fun(22), fun(24))...), rows(row(), row(), row()))
	// Functions are numbered as they stand, not by their ids; those that are called may stand ahead and behind.
	holdNew(t, module(slices.Concat(fun(28, call(30, 20)), fun(24), fun(20, call(31, 24)), fun(22, call(32, 28), call(33, 24)))...),
		rows(row(2), row(), row(1), row(0, 1)))
	// One is called more than once, and with more arguments, which are called by nobody, though they be functions.
	holdNew(t, module(slices.Concat(fun(20, call(30, 24), call(31, 22, "%20", "%24"), call(32, 24, "%6"), call(33, 24, "%30")), fun(22), fun(24))...),
		rows(row(2, 1, 2, 2), row(), row()))
	// What names a function but calls it not, counts for nothing.
	m := parse(slices.Concat([]string{`OpName %20 "f"`}, front, fun(20, "OpStore %8 %20", "%30 = OpIAdd %4 %20 %22", call(31, 22)), fun(22, "%32 = OpLoad %4 %20"))...)
	m.Insts = slices.Insert(m.Insts, 1, api.Inst{Op: 15, Args: []api.Arg{anEnum(0), anId(20), {Kind: api.ArgText, S: "main"}}})
	holdNew(t, m, rows(row(1), row()))
}

// P17.2: calls in functions with parameters and variables, in each of several blocks, also in such to which nothing leads.
func TestNewBlocks(t *testing.T) {
	lines := slices.Concat([]string{"%20 = OpFunction %1 None %2", "%40 = OpFunctionParameter %4", "%41 = OpFunctionParameter %4",
		"%21 = OpLabel", "%42 = OpVariable %7 Function", call(50, 60), "OpBranch %22",
		"%22 = OpLabel", "%43 = OpPhi %4 %6 %21", "%44 = OpIAdd %4 %6 %6", call(51, 64), "OpSelectionMerge %23 None", "OpBranchConditional %5 %23 %24",
		"%23 = OpLabel", "OpReturn",
		"%24 = OpLabel", call(52, 60), "OpBranch %23",
		"%25 = OpLabel", call(53, 66), call(54, 62), "OpKill", "OpFunctionEnd"}, fun(60), fun(62), fun(64), fun(66))
	m := module(lines...)
	holdNew(t, m, rows(row(1, 3, 1, 4, 2), row(), row(), row(), row()))
	for id := uint32(50); id <= 54; id++ {
		for _, c := range []struct {
			called uint32
			e      api.Errno
		}{{20, api.ErrCycle}, {21, api.ErrCall}, {24, api.ErrCall}, {40, api.ErrCall}, {42, api.ErrCall}, {67, api.ErrCall}} {
			wrong := apart(m)
			at := callAt(m, id)
			wrong.Insts[at].Args[0].N = c.called
			holdFault(t, wrong, spot(c.e, at))
		}
	}
}

// P17.2: ErrCall of each id that is none of a function: made ahead of all functions, in this one, in others, ahead and behind.
func TestNewCalledIsNoFunction(t *testing.T) {
	lines := slices.Concat(fun(20, "%30 = OpIAdd %4 %6 %6"),
		[]string{"%22 = OpFunction %1 None %2", "%40 = OpFunctionParameter %4", "%23 = OpLabel", "%41 = OpVariable %7 Function", "%42 = OpLoad %4 %8", call(43, 20), "%44 = OpIAdd %4 %6 %6", "OpReturn", "OpFunctionEnd"},
		fun(24, "%31 = OpIAdd %4 %6 %6", call(32, 20)))
	m := module(lines...)
	holdNew(t, m, rows(row(), row(0), row(0)))
	at := callAt(m, 43)
	for _, none := range []uint32{1, 2, 3, 4, 5, 6, 7, 8, 21, 23, 25, 30, 31, 32, 40, 41, 42, 43, 44} {
		wrong := apart(m)
		wrong.Insts[at].Args[0].N = none
		holdFault(t, wrong, spot(api.ErrCall, at))
		// The arguments behind are none that is called.
		wrong.Insts[at].Args = []api.Arg{anId(20), anId(none)}
		holdNew(t, wrong, rows(row(), row(0), row(0)))
		wrong.Insts[at].Args = []api.Arg{anId(none), anId(20)}
		holdFault(t, wrong, spot(api.ErrCall, at))
	}
}

// P17.2: ErrCycle at the first call that goes round, by one, two and more calls; calls that lead to such functions, and from them elsewhere, are right themselves.
func TestNewRound(t *testing.T) {
	// Two functions, the second call closes what the first one opens: the first one is told.
	m := module(slices.Concat(fun(20, call(30, 22)), fun(22, call(31, 20)))...)
	holdFault(t, m, spot(api.ErrCycle, callAt(m, 30)))
	// Those that go round stand behind a function that calls them, and ahead of one that they call.
	m = module(slices.Concat(fun(20, call(30, 22), call(31, 26)), fun(22, call(32, 26), call(33, 24)), fun(24, call(34, 26), call(35, 22)), fun(26))...)
	holdFault(t, m, spot(api.ErrCycle, callAt(m, 33)))
	// One that calls itself, in front of which it calls others.
	m = module(slices.Concat(fun(20, call(30, 22)), fun(22, call(31, 24), call(32, 22)), fun(24))...)
	holdFault(t, m, spot(api.ErrCycle, callAt(m, 32)))
	// By more and more functions, from each of them on.
	for n := range 7 {
		for first := range n + 1 {
			var lines []string
			// A function that calls all of them stands ahead, one that is called by all behind.
			all := []string{}
			for k := range n + 1 {
				all = append(all, call(500+k, 100+2*k))
			}
			lines = append(lines, fun(90, all...)...)
			for k := range n + 1 {
				f := (first + k) % (n + 1)
				lines = append(lines, fun(100+2*f, call(300+2*f, 80), call(301+2*f, 100+2*((f+1)%(n+1))))...)
			}
			lines = append(lines, fun(80)...)
			m := module(lines...)
			holdFault(t, m, spot(api.ErrCycle, callAt(m, uint32(301+2*first))))
			holdModule(t, m)
		}
	}
	// Two rings of functions: the first call of any.
	m = module(slices.Concat(fun(20, call(30, 26)), fun(22, call(31, 20), call(32, 28)), fun(24, call(34, 26)), fun(26, call(35, 24)), fun(28, call(36, 22)))...)
	holdFault(t, m, spot(api.ErrCycle, callAt(m, 32)))
}

// P17.2: a call in a block to which nothing leads goes round, too; the calls of all functions count, wherever they stand.
func TestNewRoundBehind(t *testing.T) {
	lines := slices.Concat(fun(20, call(30, 22)), []string{"%22 = OpFunction %1 None %2", "%23 = OpLabel", "OpReturn", "%24 = OpLabel", call(31, 26), "OpReturn", "OpFunctionEnd"}, fun(26, call(32, 28)), fun(28, call(33, 20)))
	m := module(lines...)
	holdFault(t, m, spot(api.ErrCycle, callAt(m, 30)))
	m.Insts[callAt(m, 33)].Args[0].N = 22
	holdFault(t, m, spot(api.ErrCycle, callAt(m, 31)))
	m.Insts[callAt(m, 33)].Args[0].N = 26
	holdFault(t, m, spot(api.ErrCycle, callAt(m, 32)))
	m.Insts[callAt(m, 33)].Args[0].N = 28
	holdFault(t, m, spot(api.ErrCycle, callAt(m, 33)))
	m.Insts[callAt(m, 33)].Args[0].N = 24
	holdFault(t, m, spot(api.ErrCall, callAt(m, 33)))
}

// P17.2: a call of what is no function, ahead of and behind one that goes round: the least place; a call that may not be leads nowhere.
func TestNewSeveral(t *testing.T) {
	m := module(slices.Concat(fun(20, call(30, 6), call(31, 20)), fun(22))...)
	holdFault(t, m, spot(api.ErrCall, callAt(m, 30)))
	m = module(slices.Concat(fun(20, call(30, 20), call(31, 6)), fun(22))...)
	holdFault(t, m, spot(api.ErrCycle, callAt(m, 30)))
	m = module(slices.Concat(fun(20, call(30, 22)), fun(22, call(31, 23), call(32, 20)))...)
	holdFault(t, m, spot(api.ErrCycle, callAt(m, 30)))
	m = module(slices.Concat(fun(20, call(30, 22)), fun(22, call(31, 23), call(32, 24)), fun(24, call(33, 22)))...)
	holdFault(t, m, spot(api.ErrCall, callAt(m, 31)))
	m = module(slices.Concat(fun(20, call(30, 22)), fun(22, call(31, 24), call(32, 23)), fun(24, call(33, 22)))...)
	holdFault(t, m, spot(api.ErrCycle, callAt(m, 31)))
	// A label of the first function is called: that is no call of the function.
	m = module(slices.Concat(fun(20, call(30, 22)), fun(22, call(31, 21)))...)
	holdFault(t, m, spot(api.ErrCall, callAt(m, 31)))
}

// P17.2, R8: what ids.Check says goes ahead of all else.
func TestNewAsksIds(t *testing.T) {
	wrong := module(slices.Concat(fun(20, call(30, 6), call(31, 20)), fun(22))...)
	at := callAt(wrong, 30)
	for name, change := range map[string]func(m *api.Module){
		"no bound":                     func(m *api.Module) { m.Bound = 0 },
		"too great a bound":            func(m *api.Module) { m.Bound = api.MaxBound + 1 },
		"an id beyond the bound":       func(m *api.Module) { m.Bound = 30 },
		"no operation":                 func(m *api.Module) { m.Insts[3].Op = 22 },
		"a call without arguments":     func(m *api.Module) { m.Insts[at].Args = nil },
		"a call of a number":           func(m *api.Module) { m.Insts[at].Args[0].Kind = api.ArgNumber },
		"a call without a type":        func(m *api.Module) { m.Insts[at].Type = 0 },
		"no instructions":              func(m *api.Module) { m.Insts = nil },
		"no end":                       func(m *api.Module) { m.Insts = m.Insts[:len(m.Insts)-1] },
		"a call outside of functions":  func(m *api.Module) { m.Insts = append(m.Insts, m.Insts[at]) },
		"a function in a function":     func(m *api.Module) { m.Insts[at] = m.Insts[functionAt] },
		"a function made twice":        func(m *api.Module) { m.Insts[at+4].Result = 20 },
		"a call of what none makes":    func(m *api.Module) { m.Insts[at].Args[0].N = 70 },
		"an argument that none makes":  func(m *api.Module) { m.Insts[at+1].Args = append(m.Insts[at+1].Args, anId(70)) },
		"a type made behind":           func(m *api.Module) { m.Insts[2].Args[0].N = 3 },
		"an instruction behind an end": func(m *api.Module) { m.Insts[at+2], m.Insts[at+1] = m.Insts[at+1], m.Insts[at+2] },
	} {
		m := apart(wrong)
		change(&m)
		want := ids.Check(m)
		if want.Err == api.OK {
			t.Fatalf("%s: the ids are sound", name)
		}
		holdFault(t, m, want)
	}
	holdFault(t, api.Module{}, ids.Check(api.Module{}))
	// An id that no instruction makes, far behind.
	wrong.Insts[len(wrong.Insts)-2] = api.Inst{Op: 254, Args: []api.Arg{anId(70)}}
	holdFault(t, wrong, spot(api.ErrUnknown, len(wrong.Insts)-2))
}

// P17.2: types, graphs, and what is used where it was not made, are not asked.
func TestNewAsksNoMore(t *testing.T) {
	holdNew(t, module(slices.Concat(fun(20, "OpStore %22 %30", "%30 = OpFunctionCall %4 %22 %20 %30"), fun(22, "OpBranch %21", "%40 = OpLabel"))...), rows(row(1), row()))
}

// P17.2, P17.3, P17.4: modules made by chance.
func TestNewByChance(t *testing.T) {
	d := dice(172)
	count := map[api.Errno]int{}
	for range 3000 {
		next := d.rows(1 + d.below(10))
		m := d.module(next, d.below(2) == 0)
		count[holdModule(t, m).Err]++
	}
	for _, e := range []api.Errno{api.OK, api.ErrCall, api.ErrCycle} {
		if count[e] < 300 {
			t.Errorf("%d of the error %d", count[e], e)
		}
	}
}

// many is a module of n functions, of which each but the last calls the next one, and the last one calls what is said; none, if that is 0. The i-th is 20 + 3 i.
func many(n int, last uint32) api.Module {
	m := module()
	m.Bound = api.MaxBound
	for i := range uint32(n) {
		id := 20 + 3*i
		m.Insts = append(m.Insts, api.Inst{Op: 54, Type: 1, Result: id, Args: []api.Arg{anEnum(0), anId(2)}}, api.Inst{Op: 248, Result: id + 1})
		called := id + 3
		if int(i) == n-1 {
			called = last
		}
		if called != 0 {
			m.Insts = append(m.Insts, api.Inst{Op: 57, Type: 1, Result: id + 2, Args: []api.Arg{anId(called)}})
		}
		m.Insts = append(m.Insts, api.Inst{Op: 253}, api.Inst{Op: 56})
	}
	return m
}

// P17.2: MaxNodes functions; with one more ErrLarge at 0, ahead of the calls.
func TestNewAtLimit(t *testing.T) {
	m := many(api.MaxNodes, 0)
	c, s := New(m)
	if s != (api.Spot{}) || c.Len() != api.MaxNodes || functionCount(t, m) != api.MaxNodes {
		t.Fatalf("New: %v", s)
	}
	for i := range api.MaxNodes {
		if c.Deep(i) != api.MaxNodes-1-i || c.Order()[i] != api.MaxNodes-1-i {
			t.Fatalf("of %d: Deep %d, in Order %d", i, c.Deep(i), c.Order()[i])
		}
	}
	last := callAt(many(api.MaxNodes, 6), 20+3*(api.MaxNodes-1)+2)
	holdFault(t, many(api.MaxNodes, 6), spot(api.ErrCall, last))
	holdFault(t, many(api.MaxNodes, 20), spot(api.ErrCycle, functionAt+2))
	holdFault(t, many(api.MaxNodes, 20+3*(api.MaxNodes-1)), spot(api.ErrCycle, last))
	holdFault(t, many(api.MaxNodes, 20+3*(api.MaxNodes-2)), spot(api.ErrCycle, last-5))
	for _, called := range []uint32{0, 6, 20, 21} {
		holdFault(t, many(api.MaxNodes+1, called), spot(api.ErrLarge, 0))
		holdFault(t, many(3*api.MaxNodes, called), spot(api.ErrLarge, 0))
	}
	// What is wrong with its ids goes ahead of that, too.
	holdFault(t, many(api.MaxNodes+1, 19), spot(api.ErrUnknown, last+5))
}
