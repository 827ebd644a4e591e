package flow

import (
	"slices"
	"testing"

	"intaglio/api"
)

// P19.1: the chapter's examples.
func TestExamples(t *testing.T) {
	for _, c := range []struct {
		lines string
		want  api.Errno
	}{
		{"> %z = OpCopyObject %T %a", api.OK},
		{"> %z = OpCopyObject %T %x", api.ErrUse},
		{"> %z = OpPhi %T %x %B %a %C", api.OK},
		{"> %z = OpPhi %T %a %C %x %B", api.OK},
		{"> %z = OpPhi %T %x %B", api.ErrPhi},
		{"> %z = OpPhi %T %x %C %a %B", api.ErrUse},
		{"> %z = OpCopyObject %T %gp", api.ErrScope},
	} {
		holdCheck(t, diamond(c.lines), c.want, c.lines)
	}
}

// P19.2: the chapter's examples.
func TestLiveExamples(t *testing.T) {
	r := diamond("%z = OpCopyObject %T %a")
	holdLive(t, r, "D", "a")
	holdLive(t, r, "B", "a d")
	holdLive(t, r, "C", "a")
	// In the first block what is made there is wanted no more, but its parameters, as far as they are named.
	holdLive(t, r, "A", "c d")
	holdLive(t, diamond(""), "D", "")
	holdLive(t, diamond("%z = OpCopyObject %T %c"), "D", "c")
}

// rows are lines of D, what Check answers at the one that is asked, and the rules that do not hold there.
type row struct {
	lines  string
	want   api.Errno
	broken []int
}

// holdRow says whether of a line just those rules do not hold, and Check tells the first of them.
func holdRow(t *testing.T, r reading, w row) {
	t.Helper()
	holdCheck(t, r, w.want, w.lines)
	for _, s := range sayings(r.Module) {
		for b, block := range s.f.Blocks {
			for at := block.From; at < block.To; at++ {
				l := s.rules(b, at)
				if at == r.at && !slices.Equal(l, w.broken) {
					t.Errorf("of %s the rules %v do not hold; not %v", w.lines, l, w.broken)
				}
				if at < r.at && len(l) > 0 {
					t.Errorf("of %s the rules %v do not hold at %d", w.lines, l, at)
				}
			}
		}
	}
}

// P19.1: the rule 1: whatever of another function is named by whatever; what is named of the function itself, of functions, of what is outside of all.
func TestStaysWithin(t *testing.T) {
	for _, name := range []string{"gp", "gx", "gy", "gz", "g1", "g2", "g3", "h1", "hx"} {
		for _, w := range []row{
			{lines: "> %z = OpCopyObject %T %" + name, broken: []int{1}},
			{lines: "> %z = OpCopyObject %" + name + " %true", broken: []int{1}},
			{lines: "> %z = OpLogicalAnd %T %true %" + name, broken: []int{1}},
			{lines: "> OpStore %" + name + " %a", broken: []int{1}},
			{lines: "> %z = OpFunctionCall %V %g %a %" + name, broken: []int{1}},
			{lines: "> %z = OpPhi %T %x %B %" + name + " %C", broken: []int{1}},
			{lines: "> %z = OpPhi %" + name + " %x %B %a %C", broken: []int{1}},
			{lines: "> %z = OpPhi %T %x %B %a %C %a %" + name, broken: []int{1, 2, 4}},
		} {
			w.want = api.ErrScope
			holdRow(t, diamond(w.lines), w)
		}
	}
	for _, name := range []string{"g", "h", "f", "V", "T", "fV", "true", "undef", "str", "var", "c", "d", "a", "A", "B", "C", "D", "E", "F"} {
		for _, line := range []string{"> %z = OpCopyObject %T %", "> OpStore %var %", "> %z = OpFunctionCall %V %h %"} {
			holdRow(t, diamond(line+name), row{lines: line + name})
		}
	}
	// An id that stands in another part than those of a function is asked of nothing.
	r := read(linesOf("OpMemoryModel Logical Simple\nOpName %gx \"x\"\nOpName %g1 \"y\"\nOpDecorate %gp Flat\n%V = OpTypeVoid\n%T = OpTypeBool\n%fV = OpTypeFunction %V\n%true = OpConstantTrue %T" + another)...)
	holdCheck(t, r, api.OK, "names and decorations")
}

// P19.1: the rule 1 holds of the last instructions of blocks too, and of what is not reached.
func TestStaysWithinAnywhere(t *testing.T) {
	for _, name := range []string{"gp", "gx", "g1"} {
		holdRow(t, function("%1 = OpLabel\n> OpReturnValue %"+name+"\nOpFunctionEnd"+another[:len(another)-len("\n	OpFunctionEnd\n")]), row{"a return", api.ErrScope, []int{1}})
		holdRow(t, function("%1 = OpLabel\n> OpBranchConditional %"+name+" %2 %2\n%2 = OpLabel\nOpReturn\nOpFunctionEnd"+another[:len(another)-len("\n	OpFunctionEnd\n")]), row{"a branch", api.ErrScope, []int{1}})
		holdRow(t, function("%1 = OpLabel\nOpReturn\n%2 = OpLabel\n> OpStore %"+name+" %true\nOpReturn\nOpFunctionEnd"+another[:len(another)-len("\n	OpFunctionEnd\n")]), row{"a store", api.ErrScope, []int{1}})
	}
}

// P19.1: the rule 2: parents in whatever order; too few, too many, one twice, one that is no block ahead, one that is no block.
func TestHasParents(t *testing.T) {
	for _, w := range []row{
		{lines: "> %z = OpPhi %T %a %B %a %C"},
		{lines: "> %z = OpPhi %T %a %C %a %B"},
		{lines: "> %z = OpPhi %T %true %B %undef %C"},
		{"> %z = OpPhi %T", api.ErrPhi, []int{2}},
		{"> %z = OpPhi %T %a %B", api.ErrPhi, []int{2}},
		{"> %z = OpPhi %T %a %C", api.ErrPhi, []int{2}},
		{"> %z = OpPhi %T %a %B %a %B", api.ErrPhi, []int{2}},
		{"> %z = OpPhi %T %a %B %a %B %a %C", api.ErrPhi, []int{2}},
		{"> %z = OpPhi %T %a %B %a %C %a %C %a %B", api.ErrPhi, []int{2}},
		{"> %z = OpPhi %T %a %B %a %C %true %A", api.ErrPhi, []int{2}},
		{"> %z = OpPhi %T %true %A %a %C", api.ErrPhi, []int{2}},
		{"> %z = OpPhi %T %true %D %a %C", api.ErrPhi, []int{2}},
		{"> %z = OpPhi %T %true %E %a %C", api.ErrPhi, []int{2}},
		{"> %z = OpPhi %T %true %E %a %F", api.ErrPhi, []int{2}},
		{"> %z = OpPhi %T %true %B %true %true", api.ErrPhi, []int{2}},
		{"> %z = OpPhi %T %true %B %true %x", api.ErrPhi, []int{2}},
		{"> %z = OpPhi %T %true %B %true %f", api.ErrPhi, []int{2}},
		{"> %z = OpPhi %T %true %B %true %g", api.ErrPhi, []int{2}},
		{"> %z = OpPhi %T %true %B %true %z", api.ErrPhi, []int{2}},
		{"> %z = OpPhi %T %B %true %C %true", api.ErrPhi, []int{2}},
		{"%w = OpPhi %T %a %B %a %C\n> %z = OpPhi %T %a %B", api.ErrPhi, []int{2}},
		{lines: "%w = OpPhi %T %a %B %a %C\n> %z = OpPhi %T %a %C %true %B"},
	} {
		holdRow(t, diamond(w.lines), w)
	}
}

// P19.1: the rule 3: parameters; what is made in the block, at a lesser place, at the same, at a greater one; what is made in blocks that dominate it, or don't.
func TestNamesMade(t *testing.T) {
	for _, w := range []row{
		{lines: "> %z = OpCopyObject %T %c"},
		{lines: "> %z = OpCopyObject %T %a"},
		{lines: "> OpStore %a %d"},
		{"> %z = OpCopyObject %T %x", api.ErrUse, []int{3}},
		{"> %z = OpCopyObject %T %y", api.ErrUse, []int{3}},
		{"> %z = OpCopyObject %x %true", api.ErrUse, []int{3}},
		{lines: "> %z = OpCopyObject %a %true"},
		{"> %z = OpCopyObject %T %e", api.ErrUse, []int{3}},
		{"> %z = OpCopyObject %T %u", api.ErrUse, []int{3}},
		{"> %z = OpCopyObject %T %z", api.ErrUse, []int{3}},
		{"> %z = OpCopyObject %z %true", api.ErrUse, []int{3}},
		{"> OpStore %var %z\n%z = OpCopyObject %T %true", api.ErrUse, []int{3}},
		{lines: "%z = OpCopyObject %T %true\n> OpStore %var %z"},
		{lines: "%z = OpPhi %T %true %B %true %C\n> OpStore %var %z"},
		{"> OpStore %a %x", api.ErrUse, []int{3}},
		{"> OpStore %x %a", api.ErrUse, []int{3}},
		{"> %z = OpFunctionCall %V %g %a %c %y", api.ErrUse, []int{3}},
		{lines: "> %z = OpFunctionCall %V %g %a %c %d"},
		// A block's label is none of its ids: it may be named by what stands ahead, too.
		{lines: "> %z = OpCopyObject %T %F"},
		{lines: "> %z = OpCopyObject %A %D"},
	} {
		holdRow(t, diamond(w.lines), w)
	}
	// Blocks may stand in whatever order: what dominates may have the greater place.
	r := function("%1 = OpLabel\nOpBranch %3\n%2 = OpLabel\n> %z = OpCopyObject %T %w\nOpReturn\n%3 = OpLabel\n%w = OpCopyObject %T %true\nOpBranch %2")
	holdRow(t, r, row{lines: "a block behind that dominates"})
	r = function("%1 = OpLabel\nOpBranchConditional %true %2 %3\n%2 = OpLabel\n> %z = OpCopyObject %T %w\nOpReturn\n%3 = OpLabel\n%w = OpCopyObject %T %true\nOpBranch %2")
	holdRow(t, r, row{"a block behind that doesn't", api.ErrUse, []int{3}})
	r = function("%1 = OpLabel\nOpBranch %2\n%2 = OpLabel\n%w = OpCopyObject %T %true\nOpBranch %3\n%3 = OpLabel\n> %z = OpCopyObject %T %w\nOpBranch %2")
	holdRow(t, r, row{lines: "a loop's body"})
	r = function("%1 = OpLabel\n> OpReturnValue %z\n%2 = OpLabel\n%z = OpCopyObject %T %true\nOpReturn")
	holdRow(t, r, row{"what is made where nothing comes", api.ErrUse, []int{3}})
	r = function("%1 = OpLabel\nOpBranch %2\n%2 = OpLabel\n> OpBranchConditional %z %2 %3\n%3 = OpLabel\n%z = OpCopyObject %T %true\nOpBranch %2")
	holdRow(t, r, row{"the last instruction", api.ErrUse, []int{3}})
	r = function("%1 = OpLabel\nOpBranch %2\n%2 = OpLabel\n> OpSwitch %z %2 5 %3\n%3 = OpLabel\n%z = OpCopyObject %T %true\nOpBranch %2")
	holdRow(t, r, row{"the last instruction", api.ErrUse, []int{3}})
}

// P19.1: the rule 4: what a phi takes is made at the parent's end, at whatever place, or the parent is not reached.
func TestTakesMade(t *testing.T) {
	for _, w := range []row{
		{lines: "> %z = OpPhi %T %x %B %y %C"},
		{lines: "> %z = OpPhi %T %c %B %d %C"},
		{lines: "> %z = OpPhi %T %a %B %g %C"},
		{lines: "> %z = OpPhi %T %B %B %E %C"},
		{"> %z = OpPhi %T %y %B %x %C", api.ErrUse, []int{4}},
		{"> %z = OpPhi %T %x %B %x %C", api.ErrUse, []int{4}},
		{"> %z = OpPhi %T %y %B %y %C", api.ErrUse, []int{4}},
		{"> %z = OpPhi %T %a %C %y %B", api.ErrUse, []int{4}},
		{"> %z = OpPhi %T %z %B %a %C", api.ErrUse, []int{4}},
		{"> %z = OpPhi %T %a %B %e %C", api.ErrUse, []int{4}},
		{"> %z = OpPhi %T %a %B %u %C", api.ErrUse, []int{4}},
		{"> %z = OpPhi %T %w %B %a %C\n%w = OpCopyObject %T %true", api.ErrUse, []int{4}},
		{"%w = OpPhi %T %a %B %a %C\n> %z = OpPhi %T %w %B %a %C", api.ErrUse, []int{4}},
		// Of what is no value but the phi's type nothing is asked but the rule 1.
		{lines: "> %z = OpPhi %x %x %B %y %C"},
		{lines: "> %z = OpPhi %z %x %B %y %C"},
		{lines: "> %z = OpPhi %e %x %B %y %C"},
	} {
		holdRow(t, diamond(w.lines), w)
	}
	r := function("%1 = OpLabel\nOpBranch %2\n%2 = OpLabel\n> %z = OpPhi %T %true %1 %w %3\nOpBranch %3\n%3 = OpLabel\n%v = OpCopyObject %T %w\n%w = OpCopyObject %T %true\nOpBranch %2")
	r.at += 3
	holdRow(t, r, row{"what is made behind in a loop", api.ErrUse, []int{3}})
	r = function("%1 = OpLabel\nOpBranch %2\n%2 = OpLabel\n> %z = OpPhi %T %true %1 %w %3\nOpBranch %3\n%3 = OpLabel\n%w = OpCopyObject %T %z\nOpBranch %2")
	holdRow(t, r, row{lines: "what is made in a loop, of itself"})
	r = function("%1 = OpLabel\nOpBranch %2\n%2 = OpLabel\n> %z = OpPhi %T %w %1 %w %3\nOpBranch %3\n%3 = OpLabel\n%w = OpCopyObject %T %z\nOpBranch %2")
	holdRow(t, r, row{"what is not made ahead of a loop", api.ErrUse, []int{4}})
}

// P19.1: several rules of one instruction: the first of them is told.
func TestSeveralRules(t *testing.T) {
	for _, w := range []row{
		{"> OpStore %gx %x", api.ErrScope, []int{1, 3}},
		{"> OpStore %x %gx", api.ErrScope, []int{1, 3}},
		{"> %z = OpPhi %T %gx %B", api.ErrScope, []int{1, 2}},
		{"> %z = OpPhi %T %y %B %gx %C", api.ErrScope, []int{1, 4}},
		{"> %z = OpPhi %T %y %B", api.ErrPhi, []int{2, 4}},
		{"> %z = OpPhi %T %y %B %x %C %true %A", api.ErrPhi, []int{2, 4}},
		{"> %z = OpPhi %gx %y %B %a %C %a %C", api.ErrScope, []int{1, 2, 4}},
	} {
		holdRow(t, diamond(w.lines), w)
	}
}

// P19.1: several instructions: the least place is told, and the function that comes first, whatever the rules.
func TestSeveralPlaces(t *testing.T) {
	for _, w := range []row{
		{"> OpStore %var %x\nOpStore %var %gx", api.ErrUse, []int{3}},
		{"> OpStore %var %gx\nOpStore %var %x", api.ErrScope, []int{1}},
		{"> %w = OpPhi %T\n%z = OpPhi %T %gx %B %a %C\nOpStore %x %y", api.ErrPhi, []int{2}},
		{"> %z = OpPhi %T %a %B %x %C\n%w = OpPhi %T", api.ErrUse, []int{4}},
		{"OpStore %var %true\n> OpStore %var %x\nOpStore %var %y\nOpStore %var %gx", api.ErrUse, []int{3}},
	} {
		holdRow(t, diamond(w.lines), w)
	}
	// The block that stands first is asked first, wherever ways lead.
	r := function("%1 = OpLabel\nOpBranch %3\n%2 = OpLabel\n> OpStore %var %w\nOpReturn\n%3 = OpLabel\nOpStore %var %z\n%z = OpCopyObject %T %true\nOpBranchConditional %true %2 %4\n%4 = OpLabel\n%w = OpCopyObject %T %true\nOpReturn")
	holdRow(t, r, row{"the first block", api.ErrUse, []int{3}})
	r = function("%1 = OpLabel\n> OpStore %var %w\nOpReturn\nOpFunctionEnd\n%g = OpFunction %V None %fV\n%w = OpFunctionParameter %T\n%2 = OpLabel\nOpStore %z %z\n%z = OpCopyObject %T %true\nOpReturn")
	holdRow(t, r, row{"the first function", api.ErrScope, []int{1}})
	r = function("%w = OpFunctionParameter %T\n%1 = OpLabel\nOpReturn\nOpFunctionEnd\n%g = OpFunction %V None %fV\n%2 = OpLabel\n> OpStore %z %z\n%z = OpCopyObject %T %w\nOpReturn")
	holdRow(t, r, row{"the second function", api.ErrUse, []int{3}})
}
