package ids

import (
	"slices"

	"intaglio/api"
)

// withIds is a module with other ids: those that to answers for its own ones, and their bound.
func withIds(m api.Module, bound uint32, to func(id uint32) uint32) api.Module {
	l := make([]api.Inst, len(m.Insts))
	for at, i := range m.Insts {
		l[at] = turned(i, to)
	}
	return api.Module{Generator: m.Generator, Bound: bound, Insts: l}
}

// turned is an instruction with the ids that to answers for its own ones; to is asked of ids alone, never of a 0 that stands for none.
func turned(i api.Inst, to func(id uint32) uint32) api.Inst {
	i.Args = slices.Clone(i.Args)
	if i.Type != 0 {
		i.Type = to(i.Type)
	}
	if i.Result != 0 {
		i.Result = to(i.Result)
	}
	for at, a := range i.Args {
		if a.Kind == api.ArgId {
			i.Args[at].N = to(a.N)
		}
	}
	return i
}

// reorders says whether numbers are those below a bound, each once, the 0 at its own place.
func reorders(to []uint32, bound uint32) bool {
	if len(to) != int(bound) || to[0] != 0 {
		return false
	}
	taken := make([]bool, bound)
	for _, id := range to {
		if id >= bound || taken[id] {
			return false
		}
		taken[id] = true
	}
	return true
}
