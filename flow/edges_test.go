package flow

import (
	"math"
	"testing"

	"intaglio/api"
	"intaglio/graph"
	"intaglio/ids"
	"intaglio/layout"
)

// P19.1: in a block that is not reached whatever of the function may be named, but nothing of another one; phis there must have their parents, and may take what is made nowhere on the way, if the parent is not reached.
func TestNotReached(t *testing.T) {
	begin := "%p = OpFunctionParameter %T\n%1 = OpLabel\n%x = OpCopyObject %T %true\nOpReturn\n"
	for _, c := range []struct {
		lines string
		want  api.Errno
	}{
		{"%2 = OpLabel\n> %z = OpCopyObject %T %z\nOpReturn", api.OK},
		{"%2 = OpLabel\n> %z = OpCopyObject %T %w\n%w = OpCopyObject %T %x\nOpReturn", api.OK},
		{"%2 = OpLabel\nOpReturnValue %w\n%3 = OpLabel\n> %w = OpCopyObject %p %x\nOpReturn", api.OK},
		{"%2 = OpLabel\n> %z = OpPhi %T\nOpReturn", api.OK},
		{"%2 = OpLabel\n> %z = OpPhi %T %true %1\nOpReturn", api.ErrPhi},
		{"%2 = OpLabel\n> %z = OpPhi %T %true %2\nOpReturn", api.ErrPhi},
		{"%2 = OpLabel\n> %z = OpPhi %T %true %2\nOpBranch %2", api.OK},
		{"%2 = OpLabel\n> %z = OpPhi %T %z %2\nOpBranch %2", api.OK},
		{"%2 = OpLabel\n> %z = OpPhi %T\nOpBranch %2", api.ErrPhi},
		{"%2 = OpLabel\n> %z = OpPhi %T %w %2 %z %3\nOpBranch %3\n%3 = OpLabel\n%w = OpCopyObject %T %true\nOpBranchConditional %w %2 %3", api.ErrPhi},
		{"%2 = OpLabel\n> %z = OpPhi %T %w %3\nOpBranch %3\n%3 = OpLabel\n%w = OpCopyObject %T %true\nOpBranchConditional %w %2 %3", api.OK},
		{"%2 = OpLabel\n> %z = OpPhi %T %w %3 %w %4\nOpReturn\n%3 = OpLabel\nOpBranch %2\n%4 = OpLabel\n%w = OpCopyObject %T %true\nOpBranch %2", api.OK},
	} {
		holdCheck(t, function(begin+c.lines), c.want, c.lines)
	}
	// A block that is reached has one ahead that is not: what comes from there may be made anywhere; what comes from others may not.
	begin = "%1 = OpLabel\nOpBranchConditional %true %2 %3\n%2 = OpLabel\n%x = OpCopyObject %T %true\nOpBranch %4\n%3 = OpLabel\nOpBranch %4\n%u = OpLabel\n%y = OpCopyObject %T %true\nOpBranch %4\n%4 = OpLabel\n"
	for _, c := range []struct {
		lines string
		want  api.Errno
	}{
		{"> %z = OpPhi %T %x %2 %true %3 %x %u", api.OK},
		{"> %z = OpPhi %T %x %2 %true %3 %y %u", api.OK},
		{"> %z = OpPhi %T %x %2 %true %3 %z %u", api.OK},
		{"> %z = OpPhi %T %x %2 %true %3 %w %u\n%w = OpCopyObject %T %z", api.OK},
		{"> %z = OpPhi %T %x %2 %y %3 %true %u", api.ErrUse},
		{"> %z = OpPhi %T %y %2 %true %3 %true %u", api.ErrUse},
		{"> %z = OpPhi %T %x %2 %true %3", api.ErrPhi},
		{"> %z = OpCopyObject %T %y", api.ErrUse},
	} {
		holdCheck(t, function(begin+c.lines+"\nOpReturn"), c.want, c.lines)
	}
}

// P19.1: a block that leads to itself is ahead of itself; what it makes is made at its end.
func TestLeadsToItself(t *testing.T) {
	begin := "%1 = OpLabel\nOpBranch %2\n%2 = OpLabel\n"
	end := "\nOpBranchConditional %true %2 %3\n%3 = OpLabel\nOpReturn"
	for _, c := range []struct {
		lines string
		want  api.Errno
	}{
		{"> %z = OpPhi %T %true %1 %z %2", api.OK},
		{"> %z = OpPhi %T %w %2 %true %1\n%w = OpCopyObject %T %z", api.OK},
		{"> %z = OpPhi %T %z %1 %true %2", api.ErrUse},
		{"> %z = OpPhi %T %true %1", api.ErrPhi},
		{"> %z = OpPhi %T %true %2", api.ErrPhi},
		{"> %z = OpCopyObject %T %z", api.ErrUse},
		{"%z = OpCopyObject %T %true\n> %w = OpCopyObject %T %z", api.OK},
	} {
		holdCheck(t, function(begin+c.lines+end), c.want, c.lines)
	}
	r := function(begin + "%z = OpPhi %T %v %2 %true %1\n%v = OpCopyObject %T %z\nOpStore %var %v" + end)
	holdLive(t, r, "2", "")
	holdLive(t, r, "1", "")
	r = function("%p = OpFunctionParameter %T\n%q = OpFunctionParameter %T\n" + begin + "%z = OpPhi %T %p %2 %q %1" + end)
	holdLive(t, r, "2", "p")
	holdLive(t, r, "1", "p q")
	holdLive(t, r, "3", "")
}

// P19.1: a block that leads to another one by several edges is one block ahead.
func TestSeveralEdges(t *testing.T) {
	for _, end := range []string{"OpBranchConditional %true %2 %2", "OpSwitch %true %2 1 %2 2 %2"} {
		for line, want := range map[string]api.Errno{
			"> %z = OpPhi %T %true %1":          api.OK,
			"> %z = OpPhi %T %true %1 %true %1": api.ErrPhi,
			"> %z = OpPhi %T":                   api.ErrPhi,
		} {
			holdCheck(t, function("%1 = OpLabel\n"+end+"\n%2 = OpLabel\n"+line+"\nOpReturn"), want, end+", "+line)
		}
	}
}

// P19.1: a phi in a block to which nothing leads has no arguments; that is not the first one, which has no phis.
func TestPhiOfNothing(t *testing.T) {
	r := function("%1 = OpLabel\nOpReturn\n%2 = OpLabel\n> %z = OpPhi %T\nOpStore %var %z\nOpReturn")
	holdCheck(t, r, api.OK, "a phi of nothing")
	holdLive(t, r, "2", "")
}

// P19.1: rules are asked of what stands in blocks, not of functions' own lines: their types, and those of their parameters, may be whatever is made.
func TestNotInBlocks(t *testing.T) {
	for _, id := range []string{"f", "p", "q", "x", "gx", "g1", "gp", "V"} {
		r := read(linesOf(front + "%f = OpFunction %" + id + " None %" + id + "\n%p = OpFunctionParameter %" + id + "\n%q = OpFunctionParameter %T\n%1 = OpLabel\n%x = OpCopyObject %T %true\nOpReturn\nOpFunctionEnd" + another)...)
		holdCheck(t, r, api.OK, "a function of the type "+id)
	}
}

// P19.2: what is wanted: parameters too; along all ways, around loops; what phis take, by the parent whose it is.
func TestWanted(t *testing.T) {
	r := function(`
		%p = OpFunctionParameter %T
		%q = OpFunctionParameter %T
		%r = OpFunctionParameter %T
		%1 = OpLabel
		%a = OpCopyObject %T %true
		%b = OpCopyObject %T %true
		OpBranch %2
		%2 = OpLabel
		%i = OpPhi %T %a %1 %j %4
		%k = OpPhi %T %p %1 %b %4
		OpBranchConditional %i %3 %5
		%3 = OpLabel
		%c = OpCopyObject %T %k
		OpBranch %4
		%4 = OpLabel
		%j = OpCopyObject %T %c
		OpStore %var %q
		OpBranch %2
		%5 = OpLabel
		OpReturnValue %k
		%6 = OpLabel
		OpReturnValue %a`)
	holdCheck(t, r, api.OK, "a loop")
	for label, names := range map[string]string{"1": "p q", "2": "b q", "3": "b k q", "4": "b c q", "5": "k", "6": "a"} {
		holdLive(t, r, label, names)
	}
	// What is named as a type is named; what a phi's type is, is not.
	r = function("%p = OpFunctionParameter %T\n%q = OpFunctionParameter %T\n%1 = OpLabel\nOpBranch %2\n%2 = OpLabel\n%z = OpPhi %p %true %1\n%x = OpCopyObject %q %true\nOpReturn")
	holdLive(t, r, "2", "q")
	holdLive(t, r, "1", "q")
	// Labels, functions, and what is made outside of all are never wanted.
	r = function("%1 = OpLabel\nOpSelectionMerge %2 None\nOpBranchConditional %true %2 %2\n%2 = OpLabel\n%z = OpFunctionCall %V %f %1 %str %var\nOpReturn")
	holdLive(t, r, "1", "")
	holdLive(t, r, "2", "")
}

// P19.2: ways that begin in blocks that are not reached: what they want is wanted there.
func TestWantedWhereNothingComes(t *testing.T) {
	r := diamond("%z = OpCopyObject %T %a")
	holdLive(t, r, "E", "")
	holdLive(t, r, "F", "")
	r = function("%p = OpFunctionParameter %T\n%1 = OpLabel\n%x = OpCopyObject %T %true\nOpBranch %2\n%2 = OpLabel\n%y = OpCopyObject %T %x\nOpReturn\n%3 = OpLabel\nOpStore %var %w\nOpStore %var %z\n%w = OpCopyObject %T %true\nOpBranch %4\n%4 = OpLabel\n%z = OpCopyObject %T %p\nOpBranch %2")
	holdCheck(t, r, api.OK, "what is not reached")
	// x is made on no way from there; w is made in the block itself, if behind.
	for label, names := range map[string]string{"1": "", "2": "x", "3": "p x z", "4": "p x"} {
		holdLive(t, r, label, names)
	}
	// A phi's value of a parent that is not reached.
	r = function("%1 = OpLabel\nOpBranch %2\n%2 = OpLabel\n%y = OpPhi %T %true %1 %x %3\nOpReturn\n%3 = OpLabel\nOpBranch %2\n%4 = OpLabel\n%x = OpCopyObject %T %true\nOpReturn")
	for label, names := range map[string]string{"1": "", "2": "", "3": "x", "4": ""} {
		holdLive(t, r, label, names)
	}
}

// P19.2: the labels of all functions' blocks are asked; ids that are none are not: those of functions, parameters, values, types, what is made nowhere, no ids at all.
func TestLiveOfLabels(t *testing.T) {
	r := diamond("%z = OpCopyObject %T %a")
	holdLive(t, r, "g1", "gp")
	holdLive(t, r, "g2", "")
	holdLive(t, r, "g3", "")
	holdLive(t, r, "h1", "")
	bound := r.Bound
	for _, id := range []uint32{r.id("f"), r.id("g"), r.id("h"), r.id("c"), r.id("gp"), r.id("a"), r.id("z"), r.id("gy"), r.id("T"), r.id("str"), r.id("true"), 0, 1, bound - spare - 1, bound - spare, bound - 1, bound, bound + 1, 1 << 16, 1 << 31, math.MaxUint32} {
		if l, s := Live(r.Module, id); l != nil || s != beyond {
			t.Errorf("Live of %d: %v, %v", id, l, s)
		}
	}
	// The first id, and the last one below the bound, may be labels.
	to := make([]uint32, bound)
	for i := range to {
		to[i] = uint32(i)
	}
	label := r.id("D")
	to[label], to[1] = 1, label
	first, _ := ids.Rename(r.Module, to)
	if l, s := Live(first, 1); len(l) != 1 || l[0] != r.id("a") || s != (api.Spot{}) {
		t.Errorf("Live of 1: %v, %v", l, s)
	}
	to[label], to[1], to[bound-1] = bound-1, 1, label
	last, _ := ids.Rename(r.Module, to)
	if l, s := Live(last, bound-1); len(l) != 1 || l[0] != r.id("a") || s != (api.Spot{}) {
		t.Errorf("Live of %d: %v, %v", bound-1, l, s)
	}
}

// P19.3: the places of blocks are asked, those of all functions, from their labels to their last instructions; others are not.
func TestSeenPlaces(t *testing.T) {
	r := diamond("%z = OpCopyObject %T %a")
	places := map[int]bool{}
	functions, _ := layout.Cut(r.Module)
	for _, f := range functions {
		for _, b := range f.Blocks {
			for at := b.From; at < b.To; at++ {
				places[at] = true
			}
		}
	}
	for at := -3; at < len(r.Insts)+3; at++ {
		is, s := Seen(r.Module, r.id("true"), at)
		if want := places[at]; is != want || !want && s != beyond || want && s != (api.Spot{}) {
			t.Errorf("Seen at %d: %v, %v", at, is, s)
		}
	}
	for _, at := range []int{math.MinInt, math.MinInt32, -1, math.MaxInt32, math.MaxInt} {
		if is, s := Seen(r.Module, r.id("true"), at); is || s != beyond {
			t.Errorf("Seen at %d: %v, %v", at, is, s)
		}
	}
	for _, name := range []string{"f", "g", "h", "c", "gp", "true", "T"} {
		if is, s := Seen(r.Module, r.id("true"), r.maker(name)); is || s != beyond {
			t.Errorf("Seen at %s: %v, %v", name, is, s)
		}
	}
}

// P19.3: what is made ahead of a place, and what is not; by the place within the block, and by the blocks that dominate it.
func TestSeenIds(t *testing.T) {
	r := diamond("%z = OpCopyObject %T %a\n%v = OpCopyObject %T %c")
	for at, names := range map[string]string{
		"A": "c d", "a": "c d", "B": "a c d", "x": "a c d", "C": "a c d", "y": "a c d",
		"D": "a c d", "z": "a c d", "v": "a c d z",
		"E": "a c d x y z v e u", "e": "a c d x y z v e u", "F": "a c d x y z v e u", "u": "a c d x y z v e u",
		"g1": "gp", "gx": "gp", "g2": "gp gx", "gy": "gp gx", "g3": "gp gx gy gz", "gz": "gp gx gy gz", "h1": "", "hx": "",
	} {
		seen := map[uint32]bool{}
		for _, id := range r.ids(names) {
			seen[id] = true
		}
		for _, name := range []string{"a", "c", "d", "x", "y", "z", "v", "e", "u", "gp", "gx", "gy", "gz", "hx"} {
			holdSeen(t, r.Module, r.id(name), r.maker(at), seen[r.id(name)])
		}
	}
	// The last instructions of blocks: all that is made in them is.
	for at, names := range map[string]string{"a": "c d a", "x": "a c d x", "y": "a c d y", "v": "a c d z v"} {
		seen := map[uint32]bool{}
		for _, id := range r.ids(names) {
			seen[id] = true
		}
		for _, name := range []string{"a", "c", "d", "x", "y", "z", "v", "e", "u", "gp", "gx", "gy", "gz", "hx"} {
			holdSeen(t, r.Module, r.id(name), r.maker(at)+1, seen[r.id(name)])
		}
	}
}

// P19.3: what is none of the function's ids: what is made outside of all functions, functions and the function's labels may be named anywhere; what is made in another function, its labels too, and what is made nowhere, nowhere.
func TestSeenOthers(t *testing.T) {
	r := diamond("%z = OpCopyObject %T %a")
	for _, at := range []string{"A", "a", "x", "z", "e", "u"} {
		for _, name := range []string{"V", "T", "fV", "str", "true", "undef", "var", "f", "g", "h", "A", "B", "C", "D", "E", "F"} {
			holdSeen(t, r.Module, r.id(name), r.maker(at), true)
		}
		for _, name := range []string{"gp", "g1", "gx", "g2", "gy", "g3", "gz", "h1", "hx"} {
			holdSeen(t, r.Module, r.id(name), r.maker(at), false)
		}
		for _, id := range []uint32{0, r.Bound - 2, r.Bound - 1, r.Bound, r.Bound + 1, 1 << 16, 1 << 31, math.MaxUint32} {
			holdSeen(t, r.Module, id, r.maker(at), false)
		}
		holdSeen(t, r.Module, 1, r.maker(at), true)
	}
	// The last id below the bound may be made.
	m := copyOf(r.Module)
	m.Bound -= spare
	holdSeen(t, m, m.Bound-1, len(m.Insts)-2, m.Insts[len(m.Insts)-3].Result == m.Bound-1)
	holdSeen(t, m, m.Bound, len(m.Insts)-2, false)
}

// P19.3: a phi's place is asked as those of others: what is made ahead of it, not what it may take.
func TestSeenAtPhi(t *testing.T) {
	r := diamond("%w = OpPhi %T %x %B %a %C\n%z = OpPhi %T %a %B %y %C")
	for name, want := range map[string]bool{"x": false, "y": false, "a": true, "c": true, "w": true, "z": false} {
		holdSeen(t, r.Module, r.id(name), r.maker("z"), want)
	}
	holdSeen(t, r.Module, r.id("w"), r.maker("w"), false)
}

// P19.1 to P19.3: what ids.Check says goes ahead of all else, in each of the three calls.
func TestIdsFirst(t *testing.T) {
	r := diamond("%z = OpCopyObject %T %x")
	for what, spoil := range map[string]func(m *api.Module){
		"an id made twice":    func(m *api.Module) { m.Insts[len(m.Insts)-3].Result = r.id("z") },
		"an id made nowhere":  func(m *api.Module) { m.Insts[len(m.Insts)-3].Args[0].N = m.Bound - 1 },
		"an id behind":        func(m *api.Module) { m.Insts[5].Type = r.id("undef") },
		"no OpMemoryModel":    func(m *api.Module) { m.Insts = m.Insts[1:] },
		"no OpFunctionEnd":    func(m *api.Module) { m.Insts = m.Insts[:len(m.Insts)-1] },
		"a bound that's less": func(m *api.Module) { m.Bound = 3 },
		"no bound":            func(m *api.Module) { m.Bound = 0 },
		"a strange operation": func(m *api.Module) { m.Insts[len(m.Insts)-3].Op = 9999 },
	} {
		m := copyOf(r.Module)
		spoil(&m)
		want := ids.Check(m)
		if want.Err == api.OK {
			t.Fatalf("%s: %v", what, want)
		}
		holdFault(t, m, want, what)
	}
	holdFault(t, api.Module{}, ids.Check(api.Module{}), "nothing")
	// A function without blocks is not in order.
	m := read(linesOf(front + "%f = OpFunction %V None %fV\n%p = OpFunctionParameter %T\nOpFunctionEnd")...).Module
	holdFault(t, m, spot(api.ErrOrder, len(m.Insts)-1), "a function without blocks")
}

// P19.1 to P19.3: what graph.New says of a function goes ahead of its rules, whatever the place; but behind the functions ahead of it.
func TestGraphFirst(t *testing.T) {
	wrong := "%1 = OpLabel\nOpStore %var %z\nOpBranch %2\n%2 = OpLabel\n%z = OpCopyObject %T %true\n> OpBranch %1"
	r := function(wrong)
	want := spot(api.ErrTarget, r.at)
	functions, _ := layout.Cut(r.Module)
	if _, _, s := graph.New(r.Module, functions[0]); s != want {
		t.Fatalf("graph.New: %v", s)
	}
	holdFault(t, r.Module, want, "a branch to the first block")
	for _, last := range []string{"> OpBranch %f", "> OpBranch %true", "> OpBranchConditional %z %2 %1", "> OpSwitch %z %2 5 %1", "> OpSelectionMerge %1 None\nOpBranchConditional %z %2 %2", "> OpLoopMerge %2 %z None\nOpBranch %2"} {
		r = function("%1 = OpLabel\nOpStore %var %z\nOpBranch %2\n%2 = OpLabel\n%z = OpCopyObject %T %true\n" + last)
		holdFault(t, r.Module, spot(api.ErrTarget, r.at), last)
	}
	// Of functions the first one that is wrong is told, by its graph or by its rules.
	flawed := "%1 = OpLabel\n> OpStore %var %z\nOpBranch %2\n%2 = OpLabel\n%z = OpCopyObject %T %true\nOpReturn\nOpFunctionEnd\n"
	r = function(flawed + "%g = OpFunction %V None %fV\n%g1 = OpLabel\nOpBranch %g1")
	holdFault(t, r.Module, spot(api.ErrUse, r.at), "a function that does not flow, and one without a graph")
	r = function("%g1 = OpLabel\n> OpBranch %g1\nOpFunctionEnd\n%g = OpFunction %V None %fV\n" + flawed[:len(flawed)-len("\nOpFunctionEnd\n")])
	holdFault(t, r.Module, spot(api.ErrTarget, r.at), "a function without a graph, and one that does not flow")
	// A branch to another function's block is none of the function's.
	r = diamond("")
	m := copyOf(r.Module)
	m.Insts[r.maker("x")+1].Args[0].N = r.id("g2")
	holdFault(t, m, spot(api.ErrTarget, r.maker("x")+1), "a branch to another function")
}

// P19.1 to P19.3: what does not flow is told by each of the three calls, whatever they are asked.
func TestRulesFirst(t *testing.T) {
	for line, e := range map[string]api.Errno{"> OpStore %var %x": api.ErrUse, "> OpStore %var %gx": api.ErrScope, "> %z = OpPhi %T": api.ErrPhi, "> %z = OpPhi %T %y %B %x %C": api.ErrUse} {
		r := diamond(line)
		holdFault(t, r.Module, spot(e, r.at), line)
	}
}

// P19.1: functions without parameters, and modules without functions.
func TestFewThings(t *testing.T) {
	r := function("%1 = OpLabel\nOpReturn")
	holdCheck(t, r, api.OK, "a function of nothing")
	holdLive(t, r, "1", "")
	holdSaid(t, r.Module, 1)
	m := read("OpMemoryModel Logical Simple").Module
	if s := Check(m); s != (api.Spot{}) {
		t.Errorf("Check without functions: %v", s)
	}
	for id := range m.Bound + 2 {
		if l, s := Live(m, id); l != nil || s != beyond {
			t.Errorf("Live without functions: %v, %v", l, s)
		}
		if is, s := Seen(m, id, 0); is || s != beyond {
			t.Errorf("Seen without functions: %v, %v", is, s)
		}
	}
	holdSaid(t, diamond("%z = OpPhi %T %x %B %a %C").Module, 1)
}
