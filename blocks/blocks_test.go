package blocks

import (
	"slices"
	"strings"
	"testing"

	"intaglio/api"
	"intaglio/asm"
	"intaglio/layout"
)

// last is the last function of a module of these lines, behind a few others.
func last(t *testing.T, lines ...string) (api.Module, api.Func) {
	t.Helper()
	m, s := asm.Parse("module 0 99\nOpMemoryModel Logical Simple\n%1 = OpTypeVoid\n%2 = OpTypeFunction %1\n%3 = OpTypeBool\n%4 = OpConstantTrue %3\n%9 = OpFunction %1 None %2\n%10 = OpLabel\nOpReturn\nOpFunctionEnd\n%5 = OpFunction %1 None %2\n" + strings.Join(lines, "\n") + "\nOpFunctionEnd\n")
	if s.Err != api.OK {
		t.Fatal(s)
	}
	l, s := layout.Cut(m)
	if s.Err != api.OK {
		t.Fatal(s)
	}
	return m, l[len(l)-1]
}

// Where the blocks of a function lead, and what its merges say.
func TestLead(t *testing.T) {
	m, f := last(t, "%20 = OpLabel", "OpBranch %21",
		"%21 = OpLabel", "OpLoopMerge %25 %24 None", "OpBranchConditional %4 %22 %25",
		"%22 = OpLabel", "OpSelectionMerge %24 None", "OpSwitch %4 %24 7 %23 8 %24",
		"%23 = OpLabel", "OpBranch %25",
		"%24 = OpLabel", "OpBranch %21",
		"%25 = OpLabel", "OpReturn")
	next, merges, s := Lead(m, f)
	none := api.Merge{To: -1, Continue: -1}
	if s != (api.Spot{}) || !slices.EqualFunc(next, [][]int{{1}, {2, 5}, {4, 3, 4}, {5}, {1}, {}}, slices.Equal) ||
		!slices.Equal(merges, []api.Merge{none, {Kind: api.MergeLoop, To: 5, Continue: 4}, {Kind: api.MergeSwitch, To: 4, Continue: -1}, none, none, none}) {
		t.Errorf("Lead: %v, %v, %v", next, merges, s)
	}
}

// A merge, and a branch, to the first block, to a block of another function, to what is no block.
func TestLeadAstray(t *testing.T) {
	for _, id := range []string{"%20", "%10", "%4", "%5"} {
		m, f := last(t, "%20 = OpLabel", "OpBranch %21", "%21 = OpLabel", "OpBranch "+id)
		if next, merges, s := Lead(m, f); s != (api.Spot{Err: api.ErrTarget, At: f.End - 1}) || len(next) != 0 || len(merges) != 0 {
			t.Errorf("Lead to %s: %v, %v, %v", id, next, merges, s)
		}
		m, f = last(t, "%20 = OpLabel", "OpBranch %21", "%21 = OpLabel", "OpSelectionMerge "+id+" None", "OpBranchConditional %4 %21 %20")
		if next, merges, s := Lead(m, f); s != (api.Spot{Err: api.ErrTarget, At: f.End - 2}) || len(next) != 0 || len(merges) != 0 {
			t.Errorf("Lead to %s: %v, %v, %v", id, next, merges, s)
		}
	}
}

// More blocks than a graph may have nodes are told ahead of where they lead.
func TestLeadTooMany(t *testing.T) {
	m, f := last(t, "%20 = OpLabel", "OpBranch %20")
	f.Blocks = slices.Repeat(f.Blocks, api.MaxNodes+1)
	if next, merges, s := Lead(m, f); s != (api.Spot{Err: api.ErrLarge, At: f.At}) || len(next) != 0 || len(merges) != 0 {
		t.Errorf("Lead: %d, %d, %v", len(next), len(merges), s)
	}
}
