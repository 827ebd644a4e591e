package nest

import (
	"slices"
	"strconv"
	"testing"

	"intaglio/api"
	"intaglio/graph"
	"intaglio/ids"
)

// label is the line of a label.
func label(id int) string { return "%" + strconv.Itoa(id) + " = OpLabel" }

// P16.3: modules that are well nested: without functions, with one, with several, with each kind of merge.
func TestModuleRight(t *testing.T) {
	for _, m := range []api.Module{read(), read(front...)} {
		if s := Module(m); s != (api.Spot{}) {
			t.Errorf("Module: %v", s)
		}
	}
	for _, ender := range []string{"OpReturn", "OpKill", "OpUnreachable", "OpReturnValue %6"} {
		holdBody(t, api.Spot{}, label(10), ender)
	}
	choice := []string{label(10), "OpSelectionMerge %13 None", "OpBranchConditional %5 %11 %12", label(11), "OpBranch %13", label(12), "OpBranch %13", label(13), "OpReturn"}
	among := []string{label(81), "OpSelectionMerge %84 None", "OpSwitch %6 %84 1 %82 2 %83", label(82), "OpBranch %83", label(83), "OpBranch %84", label(84), "OpReturn"}
	round := []string{label(10), "OpBranch %11",
		label(11), "OpLoopMerge %16 %15 None", "OpBranchConditional %5 %12 %16",
		label(12), "OpSelectionMerge %14 None", "OpBranchConditional %5 %13 %14",
		label(13), "OpBranch %16", label(14), "OpBranch %15", label(15), "OpBranch %11", label(16), "OpReturn"}
	for _, l := range [][]string{choice, round} {
		holdBody(t, api.Spot{}, l...)
		holdBody(t, api.Spot{}, slices.Concat(l, another, among)...)
	}
	// Blocks that do not stand may lead anywhere.
	holdBody(t, api.Spot{}, append(slices.Clone(choice), label(14), "OpSelectionMerge %13 None", "OpBranchConditional %5 %11 %14")...)
	// Both targets of a branch may be one block.
	holdBody(t, api.Spot{}, label(10), "OpBranchConditional %5 %11 %11", label(11), "OpSwitch %6 %12 1 %12", label(12), "OpReturn")
}

// P16.3: each error stands at the place of the block's last instruction, behind its merge and all else.
func TestModulePlaces(t *testing.T) {
	holdBody(t, spot(bare, bodyAt+1), label(10), "OpBranchConditional %5 %11 %12", label(11), "OpReturn", label(12), "OpReturn")
	holdBody(t, spot(bare, bodyAt+1), label(10), "OpSwitch %6 %11 1 %12", label(11), "OpReturn", label(12), "OpReturn")
	holdBody(t, spot(bare, bodyAt+4), label(10), "%20 = OpVariable %4 Function", "OpStore %20 %6", "%21 = OpIAdd %4 %6 %6", "OpBranchConditional %5 %11 %12", label(11), "OpReturn", label(12), "OpReturn")
	holdBody(t, spot(bare, bodyAt+2), "%20 = OpFunctionParameter %4", label(10), "OpBranchConditional %5 %11 %12", label(11), "OpReturn", label(12), "OpReturn")
	holdBody(t, spot(merge, bodyAt+4), label(10), "OpBranch %11", label(11), "OpSelectionMerge %11 None", "OpBranchConditional %5 %12 %12", label(12), "OpReturn")
	holdBody(t, spot(merge, bodyAt+5), label(10), "OpBranch %11", label(11), "%21 = OpIAdd %4 %6 %6", "OpLoopMerge %12 %12 None", "OpBranch %12", label(12), "OpReturn")
	holdBody(t, spot(back, bodyAt+3), label(10), "OpBranch %11", label(11), "OpBranch %11")
	holdBody(t, spot(exit, bodyAt+8), label(10), "OpSelectionMerge %13 None", "OpBranchConditional %5 %11 %13",
		label(11), "OpSelectionMerge %14 None", "OpBranchConditional %5 %12 %14", label(12), "%21 = OpIAdd %4 %6 %6", "OpBranch %13", label(14), "OpBranch %13", label(13), "OpReturn")
	// The same with a switch around both: it is left by a break.
	holdBody(t, api.Spot{}, label(10), "OpSelectionMerge %13 None", "OpSwitch %6 %11 1 %13",
		label(11), "OpSelectionMerge %14 None", "OpBranchConditional %5 %12 %14", label(12), "OpBranch %13", label(14), "OpBranch %13", label(13), "OpReturn")
}

// P16.3: the first block in order, whatever its error; of one block the first error by the order of the rules.
func TestModuleFirst(t *testing.T) {
	lines := []string{label(10), "OpBranch %11",
		label(11), "OpBranch %11",
		label(12), "OpReturn"}
	holdBody(t, spot(back, bodyAt+3), lines...)
	// A block ahead of it, though the number of its label is greater, and its error stands behind in the rules.
	lines = []string{label(10), "OpSelectionMerge %13 None", "OpBranchConditional %5 %30 %13",
		label(30), "OpSelectionMerge %14 None", "OpBranchConditional %5 %29 %14",
		label(29), "OpBranch %13",
		label(14), "OpBranchConditional %5 %15 %13",
		label(15), "OpReturn",
		label(13), "OpReturn"}
	holdBody(t, spot(exit, bodyAt+7), lines...)
	lines[7] = "OpBranch %14"
	holdBody(t, spot(bare, bodyAt+9), lines...)
	// Several errors of one block.
	several := []string{label(10), "OpSelectionMerge %14 None", "OpBranchConditional %5 %11 %14",
		label(11), "OpSelectionMerge %13 None", "OpBranchConditional %5 %12 %13",
		label(12), "OpBranchConditional %5 %11 %14",
		label(13), "OpBranch %14",
		label(14), "OpReturn"}
	holdBody(t, spot(bare, bodyAt+7), several...)
	holdBody(t, spot(merge, bodyAt+8), slices.Insert(slices.Clone(several), 7, "OpSelectionMerge %12 None")...)
	several[7] = "OpBranch %11"
	holdBody(t, spot(back, bodyAt+7), several...)
}

// P16.3: function by function: what graph.New says of the first one, then how it nests, and only then the next one.
func TestModuleFunctions(t *testing.T) {
	right := []string{label(10), "OpBranch %11", label(11), "OpReturn"}
	wrong := []string{label(10), "OpBranch %11", label(11), "OpBranch %11"}
	astray := []string{label(10), "OpBranch %10", label(11), "OpReturn"}
	second := func(line string) []string { return []string{label(81), "OpBranch %82", label(82), line} }
	secondAt := bodyAt + len(right) + len(another)
	for _, c := range []struct {
		first, second []string
		want          api.Spot
	}{
		{right, second("OpReturn"), api.Spot{}},
		{right, second("OpBranch %82"), spot(back, secondAt+3)},
		{right, second("OpBranch %81"), spot(api.ErrTarget, secondAt+3)},
		{right, second("OpBranch %11"), spot(api.ErrTarget, secondAt+3)},
		{right, second("OpBranchConditional %5 %81 %82"), spot(api.ErrTarget, secondAt+3)},
		{wrong, second("OpReturn"), spot(back, bodyAt+3)},
		{wrong, second("OpBranch %82"), spot(back, bodyAt+3)},
		{wrong, second("OpBranch %81"), spot(back, bodyAt+3)},
		{astray, second("OpReturn"), spot(api.ErrTarget, bodyAt+1)},
		{astray, second("OpBranch %82"), spot(api.ErrTarget, bodyAt+1)},
		{astray, second("OpBranch %11"), spot(api.ErrTarget, bodyAt+1)},
	} {
		holdBody(t, c.want, slices.Concat(c.first, another, c.second)...)
	}
	// Of one function a target that is none goes ahead of flaws in blocks ahead of it.
	holdBody(t, spot(api.ErrTarget, bodyAt+5), label(10), "OpBranchConditional %5 %11 %12", label(11), "OpBranch %11", label(12), "OpBranch %10")
	holdBody(t, spot(api.ErrTarget, bodyAt+3), label(10), "OpBranchConditional %5 %11 %12", label(11), "OpSelectionMerge %9 None", "OpBranchConditional %5 %12 %10", label(12), "OpReturn")
}

// P16.3, R8: what ids.Check says goes ahead of all else.
func TestModuleAsksIds(t *testing.T) {
	lines := []string{label(10), "OpBranch %11", label(11), "OpBranch %11"}
	wrong := body(lines...)
	for name, change := range map[string]func(m *api.Module){
		"no bound":                 func(m *api.Module) { m.Bound = 0 },
		"too great a bound":        func(m *api.Module) { m.Bound = api.MaxBound + 1 },
		"an id beyond the bound":   func(m *api.Module) { m.Bound = 10 },
		"no operation":             func(m *api.Module) { m.Insts[3].Op = 22 },
		"an argument too few":      func(m *api.Module) { m.Insts[bodyAt+3].Args = nil },
		"no instructions":          func(m *api.Module) { m.Insts = nil },
		"no end":                   func(m *api.Module) { m.Insts = m.Insts[:len(m.Insts)-1] },
		"one behind the end":       func(m *api.Module) { m.Insts = append(m.Insts, api.Inst{Op: 253}) },
		"a type in a block":        func(m *api.Module) { m.Insts[bodyAt+3] = api.Inst{Op: 20, Result: 50} },
		"a label made twice":       func(m *api.Module) { m.Insts[bodyAt+2].Result = 10 },
		"a target that none makes": func(m *api.Module) { m.Insts[bodyAt+1].Args[0].N = 60 },
		"a type made behind":       func(m *api.Module) { m.Insts[2].Args[0].N = 3 },
	} {
		m := apart(wrong)
		change(&m)
		want := ids.Check(m)
		if want.Err == api.OK {
			t.Fatalf("%s: the ids are sound", name)
		}
		if s := Module(m); s != want {
			t.Errorf("%s: %v; not %v", name, s, want)
		}
	}
	if s, want := Module(api.Module{}), ids.Check(api.Module{}); s != want || s.Err == api.OK {
		t.Errorf("Module of nothing: %v; not %v", s, want)
	}
	// An id that no instruction makes, far behind a function that is not well nested.
	holdBody(t, spot(api.ErrUnknown, bodyAt+9), slices.Concat(lines, another, []string{label(81), "OpBranch %82", label(82), "OpBranch %60"})...)
	holdBody(t, spot(back, bodyAt+3), slices.Concat(lines, another, []string{label(81), "OpBranch %82", label(82), "OpBranch %81"})...)
}

// P16.3: types, and what is used where it was not made, are not asked.
func TestModuleAsksNoMore(t *testing.T) {
	holdBody(t, api.Spot{}, label(10), "OpSelectionMerge %12 None", "OpBranchConditional %9 %11 %12", label(11), "%13 = OpPhi %1 %9 %9", "OpBranch %12", label(12), "OpReturnValue %13")
}

// long is a module with a function of n blocks, each of which branches to the next, but for the last, which ends as it is said; behind it and ahead of it there is another function.
func long(n int, last api.Inst) api.Module {
	m := body(label(10), "OpBranch %11", label(11), "OpReturn")
	m.Bound = api.MaxBound
	m.Insts = append(m.Insts, api.Inst{Op: 54, Type: 1, Result: 100, Args: []api.Arg{anEnum(0), anId(2)}})
	for k := range n {
		m.Insts = append(m.Insts, api.Inst{Op: 248, Result: uint32(101 + k)})
		if k+1 < n {
			m.Insts = append(m.Insts, api.Inst{Op: 249, Args: []api.Arg{anId(102 + k)}})
		}
	}
	m.Insts = append(m.Insts, last, api.Inst{Op: 56})
	m.Insts = append(m.Insts, read(append(slices.Clone(front), "%80 = OpFunction %1 None %2", label(81), "OpBranch %82", label(82), "OpBranch %82", "OpFunctionEnd")...).Insts[7:]...)
	return m
}

// P16.3: a function of MaxNodes blocks, and of one more: ErrLarge at its own place.
func TestModuleAtLimit(t *testing.T) {
	m := long(api.MaxNodes, api.Inst{Op: 253})
	end := len(m.Insts)
	if s := Module(m); s != spot(back, end-2) {
		t.Errorf("Module: %v", s)
	}
	last := functions(t, m)[1].End - 1
	if s := Module(long(api.MaxNodes, api.Inst{Op: 249, Args: []api.Arg{anId(100 + api.MaxNodes)}})); s != spot(back, last) {
		t.Errorf("Module: %v; not at %d", s, last)
	}
	for _, n := range []int{api.MaxNodes + 1, 3 * api.MaxNodes} {
		m = long(n, api.Inst{Op: 253})
		if s := Module(m); s != spot(api.ErrLarge, functions(t, m)[1].At) {
			t.Errorf("Module of %d blocks: %v", n, s)
		}
		// The function ahead goes ahead, also ahead of that.
		m.Insts[bodyAt+3] = api.Inst{Op: 249, Args: []api.Arg{anId(11)}}
		if s := Module(m); s != spot(back, bodyAt+3) {
			t.Errorf("Module of %d blocks: %v", n, s)
		}
	}
}

// P16.3, R1: a module of very many functions is answered as soon as its instructions can be asked: not each function asks all of them.
func TestModuleManyFunctions(t *testing.T) {
	m := read(front...)
	m.Bound = api.MaxBound
	id := 10
	for id+3 <= api.MaxBound {
		m.Insts = append(m.Insts, api.Inst{Op: 54, Type: 1, Result: uint32(id), Args: []api.Arg{anEnum(0), anId(2)}},
			api.Inst{Op: 248, Result: uint32(id + 1)}, api.Inst{Op: 249, Args: []api.Arg{anId(id + 2)}}, api.Inst{Op: 248, Result: uint32(id + 2)}, api.Inst{Op: 253}, api.Inst{Op: 56})
		id += 3
	}
	if s := Module(m); s != (api.Spot{}) {
		t.Errorf("Module: %v", s)
	}
	last := len(m.Insts) - 2
	m.Insts[last] = api.Inst{Op: 249, Args: []api.Arg{anId(id - 1)}}
	if s := Module(m); s != spot(back, last) {
		t.Errorf("Module: %v; not at %d", s, last)
	}
	m.Insts[last] = api.Inst{Op: 249, Args: []api.Arg{anId(id - 2)}}
	if s := Module(m); s != spot(api.ErrTarget, last) {
		t.Errorf("Module: %v; not at %d", s, last)
	}
}

// P16.3: modules made by chance: what is said is what the chapters' words, with graph.New, say of them; and of the same modules with other ids.
func TestModuleByChance(t *testing.T) {
	d := dice(1604)
	count := map[api.Errno]int{}
	behind := 0
	for n := range 4000 {
		m := d.module(n % 6)
		if s := ids.Check(m); s != (api.Spot{}) {
			t.Fatalf("ids.Check: %v, of %v", s, m)
		}
		s, want := Module(m), saidModule(t, m)
		if s != want {
			t.Fatalf("Module: %v; not %v, of %v", s, want, m)
		}
		count[s.Err]++
		if s.Err != api.OK && s.At > functions(t, m)[0].End {
			behind++
		}
		other, e := ids.Rename(m, d.renaming(m.Bound))
		if e.Err != api.OK {
			t.Fatal(e)
		}
		if again := Module(other); again != s {
			t.Fatalf("with other ids: %v; not %v", again, s)
		}
	}
	for _, e := range []api.Errno{bare, merge, back, exit, api.ErrTarget} {
		if count[e] < 100 {
			t.Errorf("%d of the error %d", count[e], e)
		}
	}
	if count[api.OK] < 1000 || behind < 500 {
		t.Errorf("%d right, %d wrong behind the first function", count[api.OK], behind)
	}
}

// P16.3: a module is well nested just if Check says so of each function's graph.
func TestModuleIsItsFunctions(t *testing.T) {
	d := dice(1605)
	for n := range 1500 {
		m := d.module(n % 4)
		want := api.Spot{}
		for _, f := range functions(t, m) {
			g, l, s := graph.New(m, f)
			if s.Err == api.OK {
				if s = Check(g, l); s.Err != api.OK {
					s.At = f.Blocks[s.At].To - 1
				}
			}
			if s.Err != api.OK {
				want = s
				break
			}
		}
		if s := Module(m); s != want {
			t.Fatalf("Module: %v; not %v", s, want)
		}
	}
}
