package consts

import (
	"intaglio/api"
	"intaglio/types"
)

// The operations that make constants, and the one that makes variables.
const (
	opUndef             = 1
	opConstantTrue      = 41
	opConstantFalse     = 42
	opConstant          = 43
	opConstantComposite = 44
	opConstantNull      = 46
	opVariable          = 59
)

// classInput is the class of variables that are filled from outside, so that they may hold nothing at first.
const classInput = 1

// builder makes a pool, instruction by instruction: what stands in it is made at a lesser place than the next one.
type builder struct {
	*Pool
}

// newBuilder is a builder of a pool without constants and variables.
func newBuilder(t *types.Table) *builder {
	return &builder{Pool: &Pool{types: t, constants: map[uint32]constant{}, variables: map[uint32]variable{}, like: map[trait][]uint32{}}}
}

// rules are, by operations, what adds an instruction's constant or variable, and answers which of the rules does not hold of it.
func (b *builder) rules() map[uint16]func(i api.Inst) api.Errno {
	return map[uint16]func(i api.Inst) api.Errno{
		opUndef:             b.empty,
		opConstantNull:      b.empty,
		opConstantTrue:      b.truth,
		opConstantFalse:     b.untruth,
		opConstant:          b.number,
		opConstantComposite: b.composite,
		opVariable:          b.variable,
	}
}

// add adds a constant.
func (b *builder) add(id uint32, c constant) api.Errno {
	b.constants[id] = c
	b.order = append(b.order, id)
	b.like[c.trait] = append(b.like[c.trait], id)
	return api.OK
}

// addWord adds a constant whose words are all one word; it is 0, unless there is but one of them.
func (b *builder) addWord(i api.Inst, word uint32) api.Errno {
	return b.add(i.Result, constant{trait: trait{typeId: i.Type, sum: uint64(word)}, word: word})
}

// empty adds a constant of noughts.
func (b *builder) empty(i api.Inst) api.Errno {
	if !b.types.Plain(i.Type) {
		return api.ErrNoType
	}
	return b.addWord(i, 0)
}

// truth adds what is true.
func (b *builder) truth(i api.Inst) api.Errno { return b.addTruth(i, 1) }

// untruth adds what is not.
func (b *builder) untruth(i api.Inst) api.Errno { return b.addTruth(i, 0) }

// addTruth adds a truth.
func (b *builder) addTruth(i api.Inst, word uint32) api.Errno {
	if b.types.Kind(i.Type) != api.KindBool {
		return api.ErrNoType
	}
	return b.addWord(i, word)
}

// number adds a number.
func (b *builder) number(i api.Inst) api.Errno {
	if b.types.Kind(i.Type) != api.KindInt {
		return api.ErrNoType
	}
	return b.addWord(i, i.Args[0].N)
}

// composite adds a constant that is made of others.
func (b *builder) composite(i api.Inst) api.Errno {
	switch b.types.Kind(i.Type) {
	case api.KindVector, api.KindArray, api.KindStruct:
	default:
		return api.ErrNoType
	}
	if len(i.Args) != b.types.Count(i.Type) {
		return api.ErrValue
	}
	c := constant{trait: trait{typeId: i.Type}}
	for k, a := range i.Args {
		part, _ := b.types.Part(i.Type, k)
		if e := b.mayHold(part, a.N); e != api.OK {
			return e
		}
		c.sum = joined(c.sum, b.constants[a.N].sum, b.types.Size(part))
		c.parts = append(c.parts, a.N)
	}
	return b.add(i.Result, c)
}

// mayHold says whether an id is that of a constant of a type.
func (b *builder) mayHold(typeId, id uint32) api.Errno {
	c, is := b.constants[id]
	if !is {
		return api.ErrNoConst
	}
	if c.typeId != typeId {
		return api.ErrValue
	}
	return api.OK
}

// variable adds a variable.
func (b *builder) variable(i api.Inst) api.Errno {
	class, is := b.types.Class(i.Type)
	if !is {
		return api.ErrNoType
	}
	if class != i.Args[0].N {
		return api.ErrStore
	}
	holds, _ := b.types.Part(i.Type, 0)
	v := variable{class: class, holds: holds}
	if len(i.Args) > 1 {
		if class == classInput {
			return api.ErrStore
		}
		v.first = i.Args[1].N
		if e := b.mayHold(holds, v.first); e != api.OK {
			return e
		}
	}
	b.variables[i.Result] = v
	b.stored = append(b.stored, i.Result)
	return api.OK
}
