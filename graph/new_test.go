package graph

import (
	"slices"
	"strconv"
	"strings"
	"testing"

	"intaglio/api"
	"intaglio/ids"
	"intaglio/layout"
)

// P14.3: functions of one block: with each ender that has no targets, with instructions ahead of it, with variables, with parameters.
func TestNewOneBlock(t *testing.T) {
	for _, ender := range []string{"OpReturn", "OpKill", "OpUnreachable", "OpReturnValue %6"} {
		holdNew(t, edges(row()), merges(none()), label(10), ender)
		holdNew(t, edges(row()), merges(none()), label(10), "%11 = OpIAdd %4 %6 %6", ender)
		holdNew(t, edges(row()), merges(none()), label(10), "%11 = OpVariable %4 Function", "%12 = OpIAdd %4 %6 %6", "OpStore %11 %12", ender)
		holdNew(t, edges(row()), merges(none()), "%11 = OpFunctionParameter %4", "%12 = OpFunctionParameter %4", label(10), ender)
	}
}

// P14.3: each of the three operations that have targets.
func TestNewTargets(t *testing.T) {
	holdNew(t, edges(row(1), row()), merges(none(), none()), label(10), "OpBranch %11", label(11), "OpReturn")
	holdNew(t, edges(row(1), row(1)), merges(none(), none()), label(10), "OpBranch %11", label(11), "OpBranch %11")
	blocks := []string{label(11), "OpReturn", label(12), "OpReturn", label(13), "OpReturn"}
	four := merges(none(), none(), none(), none())
	for _, c := range []struct {
		line string
		to   []int
	}{
		{"OpReturn", row()},
		{"OpBranch %13", row(3)},
		{"OpBranchConditional %5 %11 %12", row(1, 2)},
		{"OpBranchConditional %5 %12 %11", row(2, 1)},
		{"OpBranchConditional %5 %13 %13", row(3, 3)},
		{"OpSwitch %6 %12", row(2)},
		{"OpSwitch %6 %13 0 %12 1 %11", row(3, 2, 1)},
		{"OpSwitch %6 %13 0 %12 1 %13 2 %12 3 %13", row(3, 2, 3, 2, 3)},
		{"OpSwitch %6 %11 10 %11 9 %11", row(1, 1, 1)},
	} {
		holdNew(t, edges(c.to, row(), row(), row()), four, append([]string{label(10), c.line}, blocks...)...)
		holdNew(t, edges(c.to, row(), row(), row()), four, append([]string{label(10), "%20 = OpIAdd %4 %6 %6", c.line}, blocks...)...)
	}
}

// P14.3: the numbers of blocks are those of their places, whatever their labels are.
func TestNewNumbers(t *testing.T) {
	holdNew(t, edges(row(2), row(), row(3), row(1)), merges(none(), none(), none(), none()),
		label(40), "OpBranch %7", label(98), "OpReturn", label(7), "OpBranch %30", label(30), "OpBranch %98")
}

// P14.3: each of the merges, ahead of each ender that it may stand ahead of; and the same without it.
func TestNewMerges(t *testing.T) {
	blocks := []string{label(11), "OpReturn", label(12), "OpReturn", label(13), "OpReturn"}
	for _, c := range []struct {
		merge, ender string
		to           []int
		want         api.Merge
	}{
		{"OpSelectionMerge %13 None", "OpBranchConditional %5 %11 %12", row(1, 2), selection(3)},
		{"OpSelectionMerge %11 Flatten", "OpBranchConditional %5 %11 %12", row(1, 2), selection(1)},
		{"OpSelectionMerge %13 DontFlatten", "OpSwitch %6 %11 1 %12", row(1, 2), choice(3)},
		{"OpSelectionMerge %12 None", "OpSwitch %6 %11", row(1), choice(2)},
		{"OpLoopMerge %13 %12 None", "OpBranch %11", row(1), loop(3, 2)},
		{"OpLoopMerge %12 %13 Unroll", "OpBranch %11", row(1), loop(2, 3)},
		{"OpLoopMerge %11 %11 DontUnroll", "OpBranch %11", row(1), loop(1, 1)},
		{"OpLoopMerge %13 %12 None", "OpBranchConditional %5 %11 %13", row(1, 3), loop(3, 2)},
	} {
		next := edges(c.to, row(), row(), row())
		with := merges(c.want, none(), none(), none())
		holdNew(t, next, with, append([]string{label(10), c.merge, c.ender}, blocks...)...)
		holdNew(t, next, with, append([]string{label(10), "%20 = OpIAdd %4 %6 %6", c.merge, c.ender}, blocks...)...)
		holdNew(t, next, merges(none(), none(), none(), none()), append([]string{label(10), c.ender}, blocks...)...)
	}
}

// P14.3: a merge is that of its own block; several in one function; a block may merge to itself.
func TestNewManyMerges(t *testing.T) {
	holdNew(t, edges(row(1), row(2, 6), row(3, 4), row(6), row(5), row(1), row(7, 8, 7), row(8), row()),
		merges(none(), loop(6, 5), selection(4), none(), none(), none(), choice(8), none(), none()),
		label(10), "OpBranch %11",
		label(11), "OpLoopMerge %16 %15 None", "OpBranchConditional %5 %12 %16",
		label(12), "OpSelectionMerge %14 None", "OpBranchConditional %5 %13 %14",
		label(13), "OpBranch %16",
		label(14), "OpBranch %15",
		label(15), "OpBranch %11",
		label(16), "OpSelectionMerge %18 None", "OpSwitch %6 %17 0 %18 1 %17",
		label(17), "OpBranch %18",
		label(18), "OpReturn")
	holdNew(t, edges(row(1), row(1)), merges(none(), loop(1, 1)), label(10), "OpBranch %11", label(11), "OpLoopMerge %11 %11 None", "OpBranch %11")
	holdNew(t, edges(row(1), row(1, 1)), merges(none(), selection(1)), label(10), "OpBranch %11", label(11), "OpSelectionMerge %11 None", "OpBranchConditional %5 %11 %11")
}

// P14.3: of several functions the one that is handed in.
func TestNewWhichFunction(t *testing.T) {
	lines := slices.Concat([]string{label(10), "OpBranch %11", label(11), "OpReturn"}, another, []string{label(81), "OpSelectionMerge %83 None", "OpBranchConditional %5 %82 %83", label(82), "OpKill", label(83), "OpReturn"})
	m := body(lines...)
	l := functions(t, m)
	holdFunction(t, m, l[0], edges(row(1), row()), merges(none(), none()))
	holdFunction(t, m, l[1], edges(row(1, 2), row(), row()), merges(selection(2), none(), none()))
	// What is wrong with another function is not asked.
	lines[len(lines)-5] = "OpBranchConditional %5 %82 %10"
	m = body(lines...)
	l = functions(t, m)
	holdFunction(t, m, l[0], edges(row(1), row()), merges(none(), none()))
	holdFault(t, m, l[1], spot(api.ErrTarget, l[1].Blocks[0].To-1))
}

// wrongs are ids that are no target: the first block, a block of another function, its first one among them, both functions, a parameter, types, constants, a value, a text.
var wrongs = []string{"%10", "%81", "%82", "%9", "%80", "%30", "%1", "%2", "%3", "%5", "%6", "%31"}

// wrongBody are the lines of a body in which these ids are made, with a line in its first block, or in its second.
func wrongBody(first, second []string) []string {
	return slices.Concat([]string{"%30 = OpFunctionParameter %4", label(10)}, first,
		[]string{label(11)}, second,
		[]string{label(12), "%31 = OpIAdd %4 %6 %6", "OpReturn"}, another, []string{label(81), "OpBranch %82", label(82), "OpReturn"})
}

// P14.3: ErrTarget at the last instruction: each of its targets, in the first block and in a later one.
func TestNewWrongTarget(t *testing.T) {
	first, second := bodyAt+2, bodyAt+4
	for _, w := range wrongs {
		for _, line := range []string{
			"OpBranch " + w, "OpBranchConditional %5 " + w + " %12", "OpBranchConditional %5 %12 " + w, "OpBranchConditional %5 " + w + " " + w,
			"OpSwitch %6 " + w, "OpSwitch %6 " + w + " 1 %11", "OpSwitch %6 %11 1 " + w, "OpSwitch %6 %12 1 %11 2 %12 3 " + w, "OpSwitch %6 %12 1 " + w + " 2 %12",
		} {
			holdBody(t, spot(api.ErrTarget, first), wrongBody([]string{line}, []string{"OpReturn"})...)
			holdBody(t, spot(api.ErrTarget, second), wrongBody([]string{"OpBranch %11"}, []string{line})...)
		}
	}
	// The value by which is chosen is no target.
	for _, w := range wrongs {
		for _, line := range []string{"OpBranchConditional " + w + " %11 %12", "OpSwitch " + w + " %11 1 %12"} {
			m := body(wrongBody([]string{line}, []string{"OpReturn"})...)
			holdFunction(t, m, functions(t, m)[0], edges(row(1, 2), row(), row()), merges(none(), none(), none()))
		}
	}
}

// P14.3: ErrTarget at the merge: each of its labels, in the first block and in a later one.
func TestNewWrongMerge(t *testing.T) {
	first, second := bodyAt+2, bodyAt+4
	for _, w := range wrongs {
		for _, lines := range [][]string{
			{"OpSelectionMerge " + w + " None", "OpBranchConditional %5 %11 %12"},
			{"OpSelectionMerge " + w + " None", "OpSwitch %6 %11 1 %12"},
			{"OpLoopMerge " + w + " %12 None", "OpBranch %11"},
			{"OpLoopMerge %12 " + w + " None", "OpBranch %11"},
			{"OpLoopMerge " + w + " " + w + " None", "OpBranchConditional %5 %11 %12"},
		} {
			holdBody(t, spot(api.ErrTarget, first), wrongBody(lines, []string{"OpReturn"})...)
			holdBody(t, spot(api.ErrTarget, second), wrongBody([]string{"OpBranch %11"}, lines)...)
			// A merge goes ahead of its block's last instruction, and that ahead of later blocks.
			worse := []string{lines[0], "OpBranchConditional %5 %10 %10"}
			holdBody(t, spot(api.ErrTarget, first), wrongBody(worse[:2], []string{"OpBranch %10"})...)
			holdBody(t, spot(api.ErrTarget, first), wrongBody([]string{"OpBranch %10"}, worse)...)
		}
	}
	holdBody(t, spot(api.ErrTarget, first+1), wrongBody([]string{"OpSelectionMerge %12 None", "OpSwitch %6 %10"}, []string{"OpLoopMerge %10 %10 None", "OpBranch %10"})...)
	holdBody(t, spot(api.ErrTarget, first+1), wrongBody([]string{"OpLoopMerge %12 %11 None", "OpBranch %10"}, []string{"OpReturn"})...)
}

// P14.3: a block that is not reached is asked the same.
func TestNewUnreached(t *testing.T) {
	holdNew(t, edges(row(), row(2), row(1)), merges(none(), none(), none()), label(10), "OpReturn", label(11), "OpBranch %12", label(12), "OpBranch %11")
	holdBody(t, spot(api.ErrTarget, bodyAt+3), label(10), "OpReturn", label(11), "OpBranch %10")
	holdBody(t, spot(api.ErrTarget, bodyAt+1), label(10), "OpBranch %10")
}

// several is a module of three functions: with parameters, with one block, with several.
func several() api.Module {
	return body(slices.Concat([]string{"%30 = OpFunctionParameter %4", "%31 = OpFunctionParameter %4", label(10), "OpBranch %11", label(11), "OpReturn"},
		another, []string{label(81), "OpReturn"},
		[]string{"OpFunctionEnd", "%85 = OpFunction %1 None %2", "%86 = OpFunctionParameter %4", label(87), "OpBranch %88", label(88), "OpBranch %88"})...)
}

// P14.3: ErrArg at 0, unless the function is one of layout.Cut's in all its fields.
func TestNewWhatIsNoFunction(t *testing.T) {
	m := several()
	all := functions(t, m)
	for n := range all {
		if _, _, s := New(m, all[n]); s != (api.Spot{}) {
			t.Fatalf("%d: %v", n, s)
		}
		for name, change := range map[string]func(f *api.Func){
			"another id":                 func(f *api.Func) { f.Id++ },
			"no id":                      func(f *api.Func) { f.Id = 0 },
			"the id of another one":      func(f *api.Func) { f.Id = all[(n+1)%3].Id },
			"another place":              func(f *api.Func) { f.At++ },
			"the place ahead":            func(f *api.Func) { f.At-- },
			"no place":                   func(f *api.Func) { f.At = -1 },
			"the place of another one":   func(f *api.Func) { f.At = all[(n+1)%3].At },
			"another end":                func(f *api.Func) { f.End-- },
			"an end behind":              func(f *api.Func) { f.End = len(m.Insts) + 5 },
			"no end":                     func(f *api.Func) { f.End = 0 },
			"the end of another one":     func(f *api.Func) { f.End = all[(n+1)%3].End },
			"a parameter more":           func(f *api.Func) { f.Params = append(slices.Clone(f.Params), f.At+1) },
			"parameters of another one":  func(f *api.Func) { f.Params = all[(n+1)%3].Params },
			"a block more":               func(f *api.Func) { f.Blocks = append(slices.Clone(f.Blocks), f.Blocks[0]) },
			"a block less":               func(f *api.Func) { f.Blocks = f.Blocks[1:] },
			"no blocks":                  func(f *api.Func) { f.Blocks = nil },
			"blocks of another one":      func(f *api.Func) { f.Blocks = all[(n+1)%3].Blocks },
			"another label":              func(f *api.Func) { f.Blocks[0].Label++ },
			"another beginning":          func(f *api.Func) { f.Blocks[len(f.Blocks)-1].From++ },
			"another end of a block":     func(f *api.Func) { f.Blocks[0].To-- },
			"a beginning that is none":   func(f *api.Func) { f.Blocks[0].From = -1 },
			"an end that is far behind":  func(f *api.Func) { f.Blocks[0].To = 1 << 40 },
			"an end that is none at all": func(f *api.Func) { f.Blocks[0].To = -1 << 40 },
			"nothing":                    func(f *api.Func) { *f = api.Func{} },
			"blocks the other way round": func(f *api.Func) { slices.Reverse(f.Blocks); f.Blocks[0].From-- },
			"very many blocks":           func(f *api.Func) { f.Blocks = slices.Repeat(f.Blocks, api.MaxNodes+1) },
		} {
			f := apartFunc(all[n])
			change(&f)
			holdFault(t, m, f, spot(api.ErrArg, 0))
			if s := sameFunc(f, all[n]); s {
				t.Errorf("%s: nothing is changed", name)
			}
		}
		for k := range all[n].Params {
			f := apartFunc(all[n])
			f.Params[k]++
			holdFault(t, m, f, spot(api.ErrArg, 0))
			f = apartFunc(all[n])
			f.Params = slices.Delete(f.Params, k, k+1)
			holdFault(t, m, f, spot(api.ErrArg, 0))
		}
	}
	// A module without functions has none; that of another module is none of this one.
	holdFault(t, read(front...), all[0], spot(api.ErrArg, 0))
	holdFault(t, read(front...), api.Func{}, spot(api.ErrArg, 0))
	other := body(label(10), "OpReturn")
	holdFault(t, other, all[0], spot(api.ErrArg, 0))
	holdFault(t, m, functions(t, other)[0], spot(api.ErrArg, 0))
}

// P14.3: a function that is none goes ahead of targets that are none.
func TestNewArgFirst(t *testing.T) {
	m := body(label(10), "OpBranch %10")
	f := functions(t, m)[0]
	holdFault(t, m, f, spot(api.ErrTarget, bodyAt+1))
	f.End++
	holdFault(t, m, f, spot(api.ErrArg, 0))
}

// long is a module with a function of n blocks behind another one, each of which branches to the next; but for the last, which ends as it is said.
func long(n int, last api.Inst) api.Module {
	m := several()
	m.Bound = api.MaxBound
	m.Insts = append(m.Insts, api.Inst{Op: 54, Type: 1, Result: 100, Args: []api.Arg{anEnum(0), anId(2)}})
	for k := range uint32(n) {
		m.Insts = append(m.Insts, inst(248, 101+k))
		if k+1 < uint32(n) {
			m.Insts = append(m.Insts, inst(249, 0, anId(102+k)))
		}
	}
	m.Insts = append(m.Insts, last, inst(56, 0))
	return m
}

// P14.3: a function of MaxNodes blocks, and of one more: ErrLarge at its own place, ahead of targets that are none.
func TestNewAtLimit(t *testing.T) {
	m := long(api.MaxNodes, inst(253, 0))
	f := functions(t, m)[3]
	g, l, s := New(m, f)
	if s != (api.Spot{}) || g.Len() != api.MaxNodes || len(l) != api.MaxNodes {
		t.Fatalf("New: %v", s)
	}
	for i := range api.MaxNodes - 1 {
		if !slices.Equal(g.Next(i), row(i+1)) || !g.Reached(i+1) || l[i] != none() {
			t.Fatalf("%d: %v, %v", i, g.Next(i), l[i])
		}
	}
	m = long(api.MaxNodes, inst(249, 0, anId(100+api.MaxNodes)))
	if g, _, s := New(m, f); s != (api.Spot{}) || !slices.Equal(g.Next(api.MaxNodes-1), row(api.MaxNodes-1)) {
		t.Errorf("New: %v", s)
	}
	m = long(api.MaxNodes, inst(249, 0, anId(101)))
	holdFault(t, m, f, spot(api.ErrTarget, f.End-1))
	for _, last := range []api.Inst{inst(253, 0), inst(249, 0, anId(101))} {
		for _, n := range []int{api.MaxNodes + 1, api.MaxNodes + 2, 3 * api.MaxNodes} {
			m = long(n, last)
			f = functions(t, m)[3]
			holdFault(t, m, f, spot(api.ErrLarge, f.At))
			// Other functions of that module are as they were.
			if g, _, s := New(m, functions(t, m)[0]); s != (api.Spot{}) || g.Len() != 2 {
				t.Errorf("New of another function: %v", s)
			}
			f.End++
			holdFault(t, m, f, spot(api.ErrArg, 0))
		}
	}
}

// P14.3: a switch of very many rows.
func TestNewManyRows(t *testing.T) {
	var rows strings.Builder
	want := row(1)
	for n := range 20000 {
		rows.WriteString(" " + strconv.Itoa(n) + " %" + strconv.Itoa(11+n%3))
		want = append(want, 1+n%3)
	}
	lines := []string{label(10), "OpSwitch %6 %11" + rows.String(), label(11), "OpReturn", label(12), "OpReturn", label(13), "OpReturn"}
	holdNew(t, edges(want, row(), row(), row()), merges(none(), none(), none(), none()), lines...)
	lines[1] += " 20000 %10"
	holdBody(t, spot(api.ErrTarget, bodyAt+1), lines...)
}

// P14.3, R8: what ids.Check says of a module goes ahead, whatever the function is.
func TestNewAsksIds(t *testing.T) {
	right := body(label(10), "OpBranch %11", label(11), "OpReturn")
	f := functions(t, right)[0]
	for name, change := range map[string]func(m *api.Module){
		"no bound":                 func(m *api.Module) { m.Bound = 0 },
		"too great a bound":        func(m *api.Module) { m.Bound = api.MaxBound + 1 },
		"an id beyond the bound":   func(m *api.Module) { m.Bound = 10 },
		"no operation":             func(m *api.Module) { m.Insts[3].Op = 22 },
		"an argument too few":      func(m *api.Module) { m.Insts[bodyAt+1].Args = nil },
		"no instructions":          func(m *api.Module) { m.Insts = nil },
		"no end":                   func(m *api.Module) { m.Insts = m.Insts[:len(m.Insts)-1] },
		"one behind the end":       func(m *api.Module) { m.Insts = append(m.Insts, inst(253, 0)) },
		"a type in a block":        func(m *api.Module) { m.Insts[bodyAt+1] = inst(20, 50) },
		"a label made twice":       func(m *api.Module) { m.Insts[bodyAt+2].Result = 10 },
		"a target that none makes": func(m *api.Module) { m.Insts[bodyAt+1].Args[0].N = 60 },
		"a type made behind":       func(m *api.Module) { m.Insts[2].Args[0].N = 3 },
	} {
		m := apart(right)
		change(&m)
		want := ids.Check(m)
		if want.Err == api.OK {
			t.Fatalf("%s: the ids are sound", name)
		}
		wrong := f
		wrong.End++
		for _, f := range []api.Func{f, wrong, {}} {
			holdFault(t, m, f, want)
		}
	}
	holdFault(t, api.Module{}, api.Func{}, ids.Check(api.Module{}))
	// That a target is the first block is asked after all of this.
	m := apart(right)
	m.Insts[bodyAt+1].Args[0].N = 10
	holdFault(t, m, f, spot(api.ErrTarget, bodyAt+1))
	m.Insts[bodyAt+2].Result = 10
	holdFault(t, m, f, spot(api.ErrTwice, bodyAt+2))
}

// P14.3: whether types fit, what dominates what, how constructs nest is not asked here.
func TestNewAsksNoMore(t *testing.T) {
	holdNew(t, edges(row(1, 2), row(2), row(1)), merges(none(), none(), none()), label(10), "OpBranchConditional %9 %11 %12", label(11), "OpBranch %12", label(12), "OpBranch %11")
	holdNew(t, edges(row(1, 1), row()), merges(none(), none()), label(10), "OpSwitch %5 %11 7 %11", label(11), "%12 = OpPhi %1 %9 %9", "OpReturnValue %11")
	holdNew(t, edges(row(1), row()), merges(loop(1, 1), none()), label(10), "OpLoopMerge %11 %11 None", "OpBranch %11", label(11), "OpReturn")
}

// P14.3: modules made by chance, with targets that are all blocks, and with others.
func TestNewByChance(t *testing.T) {
	d := dice(143)
	count, kinds := map[api.Errno]int{}, map[uint8]int{}
	for n := range 3000 {
		m := d.module(n%2 == 1)
		if s := ids.Check(m); s != (api.Spot{}) {
			t.Fatalf("ids.Check: %v, of %v", s, m)
		}
		for _, f := range functions(t, m) {
			next, l, want := saidNew(m, f)
			count[want.Err]++
			if want.Err != api.OK {
				holdFault(t, m, f, want)
				continue
			}
			holdFunction(t, m, f, next, l)
			for _, merge := range l {
				kinds[merge.Kind]++
			}
		}
	}
	if count[api.OK] < 1000 || count[api.ErrTarget] < 500 || count[api.ErrTarget]+count[api.OK] < 3000 {
		t.Errorf("%v", count)
	}
	for kind := range uint8(4) {
		if kinds[kind] < 500 {
			t.Errorf("%d merges of the kind %d", kinds[kind], kind)
		}
	}
}

// P14.3: the functions of a module's cut are all taken, and the lists may be nil or empty.
func TestNewNilAndEmpty(t *testing.T) {
	m := several()
	l, _ := layout.Cut(m)
	for _, f := range l {
		if len(f.Params) > 0 {
			continue
		}
		for _, params := range [][]int{nil, {}} {
			f.Params = params
			if g, _, s := New(m, f); s != (api.Spot{}) || g == nil {
				t.Errorf("New: %v", s)
			}
		}
	}
}
