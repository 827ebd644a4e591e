package typing

import "intaglio/api"

// variable asks for a pointer to a room of the function, and for a constant that may stand in it at first.
func (b body) variable(i api.Inst) bool {
	class, to := b.pointed(i.Type)
	if class != classFunction {
		return false
	}
	return len(i.Args) == 1 || b.constants[i.Args[1].N] == to
}

// load asks for a pointer to what is taken.
func (b body) load(i api.Inst) bool {
	_, to := b.pointed(b.of(i, 0))
	return to == i.Type
}

// store asks for a pointer to what is put, and that it may be put there.
func (b body) store(i api.Inst) bool {
	class, to := b.pointed(b.of(i, 0))
	return to != 0 && class != classInput && b.of(i, 1) == to
}

// accessChain asks that the indexes lead to that to which the new pointer points.
func (b body) accessChain(i api.Inst) bool {
	class, to := b.pointed(i.Type)
	baseClass, base := b.pointed(b.of(i, 0))
	return to != 0 && class == baseClass && b.led(base, i.Args[1:]) == to
}

// led is the type to which indexes lead from a type; 0, if they lead nowhere.
func (j *judge) led(typeId uint32, indexes []api.Arg) uint32 {
	to := typeId
chain:
	for _, a := range indexes {
		switch j.Kind(to) {
		case api.KindVector, api.KindArray:
			to = j.anyPart(to, a.N)
		case api.KindStruct:
			to = j.saidPart(to, a.N)
		default:
			to = 0
			break chain
		}
	}
	return to
}

// anyPart is the type of the parts of a type that has but one for all of them, if the index is a number; else 0.
func (j *judge) anyPart(typeId, index uint32) uint32 {
	if !j.isNumber(j.typeIds[index]) {
		return 0
	}
	return j.part(typeId, 0)
}

// saidPart is the type of the part of a type whose number the index says, if it is a constant that was made by saying a number; else 0.
func (j *judge) saidPart(typeId, index uint32) uint32 {
	i := j.makers[index]
	if i.Op != opConstant {
		return 0
	}
	return j.part(typeId, int(i.Args[0].N))
}
