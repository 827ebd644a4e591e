package graph

import (
	"slices"

	"intaglio/api"
	"intaglio/blocks"
	"intaglio/ids"
	"intaglio/layout"
)

// New is the graph of a function's blocks, and what their merges say.
func New(m api.Module, f api.Func) (*Graph, []api.Merge, api.Spot) {
	if s := ids.Check(m); s.Err != api.OK {
		return nil, nil, s
	}
	all, _ := layout.Cut(m)
	if !slices.ContainsFunc(all, func(o api.Func) bool { return sameFunc(o, f) }) {
		return nil, nil, api.Spot{Err: api.ErrArg}
	}
	next, merges, s := blocks.Lead(m, f)
	if s.Err != api.OK {
		return nil, nil, s
	}
	return made(next), merges, api.Spot{}
}

// Targets are the labels to which an instruction branches.
func Targets(i api.Inst) []uint32 { return blocks.Targets(i) }

// sameFunc says whether functions are the same in all fields.
func sameFunc(a, b api.Func) bool {
	return a.Id == b.Id && a.At == b.At && a.End == b.End && slices.Equal(a.Params, b.Params) && slices.Equal(a.Blocks, b.Blocks)
}
