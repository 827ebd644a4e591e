package typing

import (
	"intaglio/api"
	"intaglio/consts"
	"intaglio/types"
)

// judge says whether instructions fit: it knows a module's types, and what its ids are.
type judge struct {
	*types.Table
	makers    map[uint32]api.Inst // by the ids that they make
	typeIds   map[uint32]uint32   // the types of the ids that have one
	constants map[uint32]uint32   // those of the constants alone
}

// judgeOf is the judge of a module.
func judgeOf(m api.Module) (*judge, api.Spot) {
	p, s := consts.New(m)
	if s.Err != api.OK {
		return nil, s
	}
	j := &judge{Table: p.Types(), makers: map[uint32]api.Inst{}, typeIds: map[uint32]uint32{}, constants: map[uint32]uint32{}}
	for _, i := range m.Insts {
		if i.Result != 0 {
			j.makers[i.Result] = i
		}
		if i.Type != 0 && i.Op != opFunction {
			j.typeIds[i.Result] = i.Type
		}
	}
	for _, id := range p.Ids() {
		j.constants[id] = j.typeIds[id]
	}
	return j, api.Spot{}
}

// body is the judge of a function's instructions.
type body struct {
	*judge
	answer     uint32   // the type of what the function answers
	parameters []uint32 // the types of its parameters
}

// within is the judge of the instructions of a function.
func (j *judge) within(m api.Module, f api.Func) body {
	b := body{judge: j, answer: m.Insts[f.At].Type}
	for _, at := range f.Params {
		b.parameters = append(b.parameters, m.Insts[at].Type)
	}
	return b
}

// of is the type of an instruction's argument of that number, which is an id; 0, if it has none.
func (j *judge) of(i api.Inst, k int) uint32 { return j.typeIds[i.Args[k].N] }

// ofAll are the types of arguments, which are ids.
func (j *judge) ofAll(l []api.Arg) []uint32 {
	typeIds := make([]uint32, len(l))
	for k, a := range l {
		typeIds[k] = j.typeIds[a.N]
	}
	return typeIds
}

// isTruth says whether a type is a truth's.
func (j *judge) isTruth(typeId uint32) bool { return j.Kind(typeId) == api.KindBool }

// isNumber says whether a type is a number's.
func (j *judge) isNumber(typeId uint32) bool { return j.Kind(typeId) == api.KindInt }

// areTruths says whether a type is a truth's, or a vector's of truths.
func (j *judge) areTruths(typeId uint32) bool {
	return j.isTruth(typeId) || j.isTruth(j.element(typeId))
}

// areNumbers says whether a type is a number's, or a vector's of numbers.
func (j *judge) areNumbers(typeId uint32) bool {
	return j.isNumber(typeId) || j.isNumber(j.element(typeId))
}

// element is the type of the parts of a vector's type; 0, if it is none.
func (j *judge) element(typeId uint32) uint32 {
	if j.Kind(typeId) != api.KindVector {
		return 0
	}
	return j.part(typeId, 0)
}

// asWide says whether two types are as wide; each of them is a truth's, a number's or a vector's, of which the vectors' alone have parts.
func (j *judge) asWide(a, b uint32) bool { return j.Count(a) == j.Count(b) }

// pointed is the class of a pointer's type, and the type to which it points; 0 and 0, if it is none.
func (j *judge) pointed(typeId uint32) (uint32, uint32) {
	class, is := j.Class(typeId)
	if !is {
		return 0, 0
	}
	return class, j.part(typeId, 0)
}

// part is the type of a type's part; 0, if it has none of that number.
func (j *judge) part(typeId uint32, k int) uint32 {
	part, _ := j.Part(typeId, k)
	return part
}

// hasParts says whether a type's parts are these types, one by one.
func (j *judge) hasParts(typeId uint32, parts []uint32) bool {
	if j.Count(typeId) != len(parts) {
		return false
	}
	for k, part := range parts {
		if j.part(typeId, k) != part {
			return false
		}
	}
	return true
}

// alike says whether the types of all these arguments are alike to a type.
func (j *judge) alike(typeId uint32, l []api.Arg) bool {
	for _, a := range l {
		if !j.Alike(typeId, j.typeIds[a.N]) {
			return false
		}
	}
	return true
}
