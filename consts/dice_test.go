package consts

import (
	"slices"

	"intaglio/api"
	"intaglio/types"
)

// dice are numbers that look like chance, and are the same at every run.
type dice uint64

// below is a number below n.
func (d *dice) below(n int) int {
	*d = *d*6364136223846793005 + 1442695040888963407
	return int(uint64(*d)>>33) % n
}

// oneOf is one of some numbers.
func (d *dice) oneOf(l ...uint32) uint32 { return l[d.below(len(l))] }

// renaming are the numbers of a renaming.
func (d *dice) renaming(bound uint32) []uint32 {
	to := make([]uint32, bound)
	for i := range to {
		to[i] = uint32(i)
	}
	for i := len(to) - 1; i > 1; i-- {
		k := 1 + d.below(i)
		to[i], to[k] = to[k], to[i]
	}
	return to
}

// diceBound is the bound of modules made by chance.
const diceBound = 90

// fresh is an id that a module makes nowhere.
func (d *dice) fresh(m api.Module) uint32 {
	for {
		id := 1 + uint32(d.below(diceBound-1))
		if saidPlace(m, id) < 0 {
			return id
		}
	}
}

// such is an id of those that a module makes by instructions of these operations; of whatever ones, if there are none, or none is named.
func (d *dice) such(m api.Module, names ...string) uint32 {
	var l, all []uint32
	for _, i := range m.Insts {
		if i.Result == 0 {
			continue
		}
		all = append(all, i.Result)
		if slices.Contains(names, saidName(i)) {
			l = append(l, i.Result)
		}
	}
	if len(l) == 0 {
		l = all
	}
	return d.oneOf(l...)
}

// plain is an id, mostly of a plain type.
func (d *dice) plain(m api.Module) uint32 {
	return d.such(m, "OpTypeBool", "OpTypeInt", "OpTypeVector", "OpTypeArray", "OpTypeStruct")
}

// ofType is an id, mostly of a constant of a type.
func (d *dice) ofType(m api.Module, typeId uint32) uint32 {
	var l []uint32
	for _, i := range m.Insts {
		if saidConstant(i) && i.Type == typeId {
			l = append(l, i.Result)
		}
	}
	if len(l) == 0 || d.below(40) == 0 {
		return d.such(m)
	}
	return d.oneOf(l...)
}

// typed is an instruction that makes a type.
func (d *dice) typed(m api.Module) api.Inst {
	id := d.fresh(m)
	switch d.below(5) {
	case 0:
		return inst(23, 0, id, anId(d.such(m, "OpTypeBool", "OpTypeInt")), aNumber(d.oneOf(2, 3, 4)))
	case 1:
		return inst(28, 0, id, anId(d.plain(m)), anId(d.such(m, "OpConstant")))
	case 2:
		l := []uint32{d.plain(m)}
		for range d.below(4) {
			l = append(l, d.plain(m))
		}
		return inst(30, 0, id, idsOf(l...)...)
	}
	return inst(32, 0, id, anEnum(d.oneOf(1, 3, 6, 7)), anId(d.plain(m)))
}

// composite is an instruction that makes a composite, mostly of a type's own parts.
func (d *dice) composite(m api.Module, x *types.Table) api.Inst {
	i := inst(44, d.such(m, "OpTypeVector", "OpTypeArray", "OpTypeStruct"), d.fresh(m))
	for k := range x.Count(i.Type) {
		i.Args = append(i.Args, anId(d.ofType(m, saidPart(x, i.Type, k))))
	}
	switch d.below(20) {
	case 0:
		i.Args = append(i.Args, anId(d.such(m)))
	case 1:
		i.Args = i.Args[:max(1, len(i.Args))-1]
	}
	return i
}

// stored is an instruction that makes a variable, mostly of a pointer's own class.
func (d *dice) stored(m api.Module, x *types.Table) api.Inst {
	i := inst(59, d.such(m, "OpTypePointer"), d.fresh(m))
	class, _ := x.Class(i.Type)
	if class == 0 || class == 7 || d.below(12) == 0 {
		class = d.oneOf(1, 3, 6)
	}
	i.Args = append(i.Args, anEnum(class))
	if d.below(2) == 0 {
		i.Args = append(i.Args, anId(d.ofType(m, saidPart(x, i.Type, 0))))
	}
	return i
}

// declared is an instruction that may stand behind those of a module, in the part 7; what it names is made there.
func (d *dice) declared(m api.Module, x *types.Table) api.Inst {
	id := d.fresh(m)
	switch d.below(16) {
	case 0, 1, 2:
		return d.typed(m)
	case 3:
		return inst(uint16(d.oneOf(41, 42)), d.such(m, "OpTypeBool"), id)
	case 4, 5:
		return inst(43, d.such(m, "OpTypeInt"), id, aNumber(d.oneOf(0, 1, 1, 2, 3, 7, 1<<31, 1<<32-1)))
	case 6:
		return inst(uint16(d.oneOf(1, 46)), d.plain(m), id)
	case 7, 8, 9, 10, 11:
		return d.composite(m, x)
	case 12, 13, 14:
		return d.stored(m, x)
	}
	return inst(uint16(d.oneOf(1, 41, 42, 46)), d.such(m), id)
}

// fronts is the beginning of a module: the simple types, in whatever order, and a constant.
func (d *dice) fronts() api.Module {
	m := module(diceBound, model())
	simple := []api.Inst{inst(19, 0, 0), inst(20, 0, 0), inst(21, 0, 0, aNumber(32), aNumber(0)), inst(21, 0, 0, aNumber(32), aNumber(1))}
	for len(simple) > 0 {
		k := d.below(len(simple))
		i := simple[k]
		i.Result = d.fresh(m)
		simple = slices.Delete(simple, k, k+1)
		m.Insts = append(m.Insts, i)
	}
	m.Insts = append(m.Insts, inst(43, d.such(m, "OpTypeInt"), d.fresh(m), aNumber(1+uint32(d.below(4)))))
	return m
}

// large is how many words the types may have of modules made by chance.
const large = 300

// sound is a module whose constants are sound.
func (d *dice) sound() api.Module {
	m := d.fronts()
	x, _ := types.New(m)
	for range 30 + d.below(60) {
		if len(m.Insts) == 50 {
			break
		}
		longer := m
		longer.Insts = append(slices.Clone(m.Insts), d.declared(m, x))
		y, s := types.New(longer)
		last := len(m.Insts)
		if s.Err == api.OK && saidError(longer, y, last) == api.OK && y.Size(longer.Insts[last].Result) <= large {
			m, x = longer, y
		}
	}
	return m
}

// spoiled is a module with some more instructions, whatever they are.
func (d *dice) spoiled(m api.Module) api.Module {
	m.Insts = slices.Clone(m.Insts)
	x, _ := types.New(m)
	for range 1 + d.below(3) {
		m.Insts = append(m.Insts, d.declared(m, x))
	}
	return m
}
