package consts

import (
	"slices"
	"testing"

	"intaglio/api"
	"intaglio/grammar"
	"intaglio/types"
)

// What the chapter says, said once more: each answer is looked up in the module's instructions anew.

// saidPlace is the place at which an id is made; -1, if it is not.
func saidPlace(m api.Module, id uint32) int {
	return slices.IndexFunc(m.Insts, func(i api.Inst) bool { return id != 0 && i.Result == id })
}

// saidName is the name of an instruction's operation.
func saidName(i api.Inst) string {
	f, _ := grammar.Of(i.Op)
	return f.Name
}

// saidConstant says whether an instruction makes a constant.
func saidConstant(i api.Inst) bool {
	return slices.Contains([]string{"OpUndef", "OpConstantTrue", "OpConstantFalse", "OpConstant", "OpConstantComposite", "OpConstantNull"}, saidName(i))
}

// saidVariable says whether an instruction makes one of the module's variables.
func saidVariable(i api.Inst) bool {
	return saidName(i) == "OpVariable" && i.Args[0].N != 7
}

// saidPart is the type of a type's part.
func saidPart(x *types.Table, id uint32, k int) uint32 {
	part, _ := x.Part(id, k)
	return part
}

// saidFits says whether an id is that of a constant that is made ahead of a place, of a type.
func saidFits(m api.Module, at int, id, typeId uint32) api.Errno {
	k := saidPlace(m, id)
	if k < 0 || k >= at || !saidConstant(m.Insts[k]) {
		return api.ErrNoConst
	}
	if m.Insts[k].Type != typeId {
		return api.ErrValue
	}
	return api.OK
}

// saidError is the first rule that does not hold of the instruction at a place, the module's types being sound, and its constants ahead of it.
func saidError(m api.Module, x *types.Table, at int) api.Errno {
	i := m.Insts[at]
	kind := x.Kind(i.Type)
	switch saidName(i) {
	case "OpUndef", "OpConstantNull":
		if kind < api.KindBool || kind > api.KindStruct {
			return api.ErrNoType
		}
	case "OpConstantTrue", "OpConstantFalse":
		if kind != api.KindBool {
			return api.ErrNoType
		}
	case "OpConstant":
		if kind != api.KindInt {
			return api.ErrNoType
		}
	case "OpConstantComposite":
		if kind < api.KindVector || kind > api.KindStruct {
			return api.ErrNoType
		}
		if x.Count(i.Type) != len(i.Args) {
			return api.ErrValue
		}
		for k, a := range i.Args {
			if e := saidFits(m, at, a.N, saidPart(x, i.Type, k)); e != api.OK {
				return e
			}
		}
	case "OpVariable":
		if saidVariable(i) {
			return saidStore(m, x, at)
		}
	}
	return api.OK
}

// saidStore is the first rule that does not hold of one of the module's variables.
func saidStore(m api.Module, x *types.Table, at int) api.Errno {
	i := m.Insts[at]
	if x.Kind(i.Type) != api.KindPointer {
		return api.ErrNoType
	}
	if class, _ := x.Class(i.Type); class != i.Args[0].N {
		return api.ErrStore
	}
	if len(i.Args) == 1 {
		return api.OK
	}
	if i.Args[0].N == 1 {
		return api.ErrStore
	}
	return saidFits(m, at, i.Args[1].N, saidPart(x, i.Type, 0))
}

// saidNew is what New says of a module.
func saidNew(m api.Module) api.Spot {
	x, s := types.New(m)
	if s.Err != api.OK {
		return s
	}
	for at := range m.Insts {
		if e := saidError(m, x, at); e != api.OK {
			return spot(e, at)
		}
	}
	return api.Spot{}
}

// saidValue are a constant's words.
func saidValue(m api.Module, x *types.Table, id uint32) []uint32 {
	i := m.Insts[saidPlace(m, id)]
	switch saidName(i) {
	case "OpConstantTrue":
		return []uint32{1}
	case "OpConstantFalse":
		return []uint32{0}
	case "OpConstant":
		return []uint32{i.Args[0].N}
	case "OpConstantComposite":
		var w []uint32
		for _, a := range i.Args {
			w = append(w, saidValue(m, x, a.N)...)
		}
		return w
	}
	return make([]uint32, x.Size(i.Type))
}

// saidFirst is the first constant of a type with these words; 0, if there is none.
func saidFirst(m api.Module, x *types.Table, typeId uint32, w []uint32) uint32 {
	for _, i := range m.Insts {
		if saidConstant(i) && i.Type == typeId && slices.Equal(saidValue(m, x, i.Result), w) {
			return i.Result
		}
	}
	return 0
}

// holdSaid says whether a pool tells of all ids what the chapter says.
func holdSaid(t *testing.T, p *Pool, m api.Module) {
	t.Helper()
	x, _ := types.New(m)
	if l := p.Types().Ids(); !slices.Equal(l, x.Ids()) {
		t.Fatalf("the types %v; not %v", l, x.Ids())
	}
	var constants, variables []uint32
	for _, i := range m.Insts {
		if saidConstant(i) {
			constants = append(constants, i.Result)
		}
		if saidVariable(i) {
			variables = append(variables, i.Result)
		}
	}
	if l := p.Ids(); !slices.Equal(l, constants) {
		t.Fatalf("Ids: %v; not %v, of %v", l, constants, m)
	}
	if l := p.Variables(); !slices.Equal(l, variables) {
		t.Fatalf("Variables: %v; not %v, of %v", l, variables, m)
	}
	for id := range m.Bound + 2 {
		holdSaidValue(t, p, m, x, id, slices.Contains(constants, id))
		holdSaidVariable(t, p, m, x, id, slices.Contains(variables, id))
	}
}

// holdSaidValue says whether a pool tells of an id, as a constant, what the chapter says; and finds its value, and not its neighbours.
func holdSaidValue(t *testing.T, p *Pool, m api.Module, x *types.Table, id uint32, is bool) {
	t.Helper()
	if !is {
		holdNoValue(t, p, id)
		return
	}
	typeId, w := m.Insts[saidPlace(m, id)].Type, saidValue(m, x, id)
	holdValue(t, p, id, typeId, w...)
	holdFound(t, p, saidFirst(m, x, typeId, w), typeId, w...)
	k := int(id) % len(w)
	w[k]++
	holdFound(t, p, saidFirst(m, x, typeId, w), typeId, w...)
	w[k]--
	holdFound(t, p, 0, typeId, w[1:]...)
	holdFound(t, p, 0, typeId, append([]uint32{0}, w...)...)
	holdFound(t, p, 0, typeId, append(w, 0)...)
	holdFound(t, p, 0, id, w...)
}

// holdSaidVariable says whether a pool tells of an id, as a variable, what the chapter says.
func holdSaidVariable(t *testing.T, p *Pool, m api.Module, x *types.Table, id uint32, is bool) {
	t.Helper()
	if !is {
		holdNoVariable(t, p, id)
		return
	}
	i := m.Insts[saidPlace(m, id)]
	holds := saidPart(x, i.Type, 0)
	w := make([]uint32, x.Size(holds))
	if len(i.Args) > 1 {
		w = saidValue(m, x, i.Args[1].N)
	}
	holdVariable(t, p, id, i.Args[0].N, holds, w...)
}
