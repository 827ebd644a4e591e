package types

import (
	"slices"

	"intaglio/api"
)

// dice are numbers that look like chance, and are the same at every run.
type dice uint64

// below is a number below n.
func (d *dice) below(n int) int {
	*d = *d*6364136223846793005 + 1442695040888963407
	return int(uint64(*d)>>33) % n
}

// oneOf is one of some numbers.
func (d *dice) oneOf(l ...uint32) uint32 { return l[d.below(len(l))] }

// renaming are the numbers of a renaming.
func (d *dice) renaming(bound uint32) []uint32 {
	to := make([]uint32, bound)
	for i := range to {
		to[i] = uint32(i)
	}
	for i := len(to) - 1; i > 1; i-- {
		k := 1 + d.below(i)
		to[i], to[k] = to[k], to[i]
	}
	return to
}

// diceBound is the bound of modules made by chance.
const diceBound = 60

// fresh is an id that a module makes nowhere.
func (d *dice) fresh(m api.Module) uint32 {
	for {
		id := 1 + uint32(d.below(diceBound-1))
		if saidPlace(m, id) < 0 {
			return id
		}
	}
}

// made is an id that a module makes: mostly one of the last, so that types stand in one another.
func (d *dice) made(m api.Module) api.Arg {
	var l []uint32
	for _, i := range m.Insts {
		if i.Result != 0 {
			l = append(l, i.Result)
		}
	}
	if d.below(3) == 0 {
		l = l[max(0, len(l)-6):]
	}
	return anId(d.oneOf(l...))
}

// madeTimes are several of these.
func (d *dice) madeTimes(m api.Module, n int) []api.Arg {
	var l []api.Arg
	for range n {
		l = append(l, d.made(m))
	}
	if d.below(3) == 0 {
		for k := range l {
			l[k] = l[0]
		}
	}
	return l
}

// length is a number that a constant may say: with those at the edges.
func (d *dice) length() uint32 {
	return d.oneOf(0, 1, 1, 2, 2, 3, 3, 4, 5, 16, 17, 255, 256, 257, 1024, 2048, 4095, 4096, 4097, 1<<31, 1<<32-1)
}

// declared is an instruction that may stand behind those of a module, in the part 7; what it names is made there.
func (d *dice) declared(m api.Module) api.Inst {
	id := d.fresh(m)
	switch d.below(18) {
	case 0:
		return inst(19, 0, id)
	case 1:
		return inst(20, 0, id)
	case 2:
		return inst(21, 0, id, aNumber(d.oneOf(32, 32, 32, 32, 16, 0, 33)), aNumber(d.oneOf(0, 1, 0, 1, 2)))
	case 3, 4:
		return inst(23, 0, id, d.made(m), aNumber(d.oneOf(2, 3, 4, 2, 3, 4, 0, 1, 5)))
	case 5, 6, 7:
		return inst(28, 0, id, d.made(m), d.made(m))
	case 8, 9:
		return inst(30, 0, id, d.madeTimes(m, d.below(5))...)
	case 10:
		return inst(30, 0, id, d.madeTimes(m, int(d.oneOf(1, 1, 2, 255, 256, 257, 8)))...)
	case 11:
		return inst(32, 0, id, anEnum(d.oneOf(1, 3, 6, 7)), d.made(m))
	case 12:
		return inst(33, 0, id, d.madeTimes(m, 1+d.below(4))...)
	case 13, 14:
		return inst(43, d.made(m).N, id, aNumber(d.length()))
	case 15, 16:
		return d.again(m, id)
	}
	return inst(uint16(d.oneOf(1, 41, 42, 46)), d.made(m).N, id)
}

// again is an instruction of a module that makes another id.
func (d *dice) again(m api.Module, id uint32) api.Inst {
	i := m.Insts[1+d.below(len(m.Insts)-1)]
	i.Result = id
	return i
}

// fronts is the beginning of a module: with the simple types, some of them, and a constant.
func (d *dice) fronts() api.Module {
	m := module(diceBound, model())
	simple := []api.Inst{inst(19, 0, 0), inst(20, 0, 0), inst(21, 0, 0, aNumber(32), aNumber(0)), inst(21, 0, 0, aNumber(32), aNumber(1))}
	for len(simple) > 0 {
		k := d.below(len(simple))
		i := simple[k]
		i.Result = d.fresh(m)
		simple = slices.Delete(simple, k, k+1)
		if len(m.Insts) < 2 || d.below(4) > 0 {
			m.Insts = append(m.Insts, i)
		}
	}
	for range 2 {
		m.Insts = append(m.Insts, inst(43, d.made(m).N, d.fresh(m), aNumber(d.length())))
	}
	return m
}

// sound is a module whose types are sound.
func (d *dice) sound() api.Module {
	m := d.fronts()
	for range 20 + d.below(40) {
		if len(m.Insts) == 30 {
			break
		}
		x := m
		x.Insts = append(slices.Clone(m.Insts), d.declared(m))
		if saidError(x, len(m.Insts)) == api.OK {
			m = x
		}
	}
	return m
}

// spoiled is a module with some more instructions, whatever they are; now and then with structs that stand in one another, too.
func (d *dice) spoiled(m api.Module) api.Module {
	m.Insts = slices.Clone(m.Insts)
	if d.below(4) == 0 {
		part := d.made(m)
		for range 9 + d.below(8) {
			i := inst(30, 0, d.fresh(m), part)
			m.Insts = append(m.Insts, i)
			part = anId(i.Result)
		}
	}
	for range 1 + d.below(3) {
		m.Insts = append(m.Insts, d.declared(m))
	}
	return m
}
