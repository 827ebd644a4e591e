package types

import (
	"slices"
	"strconv"

	"intaglio/api"
	"intaglio/code"
)

// The operations that make types, and the one that makes an array's length.
const (
	opTypeVoid     = 19
	opTypeBool     = 20
	opTypeInt      = 21
	opTypeVector   = 23
	opTypeArray    = 28
	opTypeStruct   = 30
	opTypePointer  = 32
	opTypeFunction = 33
	opConstant     = 43
)

// builder makes a table, instruction by instruction: what stands in it stands ahead of the next one.
type builder struct {
	*Table
	numbers map[uint32]uint32 // what the constants say that are numbers, by their ids
	makers  map[string]uint32 // the types of which each may be there but once, by what makes them
}

// newBuilder is a builder of a table without types.
func newBuilder() *builder {
	return &builder{Table: &Table{types: map[uint32]entry{}}, numbers: map[uint32]uint32{}, makers: map[string]uint32{}}
}

// take adds what an instruction makes, if that is a type, and answers which of the rules of types does not hold of it.
func (b *builder) take(i api.Inst) api.Errno {
	if i.Op == opConstant {
		b.addNumber(i)
		return api.OK
	}
	x, e := b.read(i)
	if e != api.OK || x.kind == 0 {
		return e
	}
	x.size, x.depth = b.sizeOf(x), b.depthOf(x)
	switch x.kind {
	case api.KindArray, api.KindStruct:
		if x.size > api.MaxSize {
			return api.ErrSize
		}
		if x.depth > api.MaxNest {
			return api.ErrLarge
		}
	default:
		if !b.isNew(i) {
			return api.ErrSame
		}
	}
	b.types[i.Result] = x
	b.order = append(b.order, i.Result)
	return api.OK
}

// addNumber keeps what a constant says, if its type is a number's.
func (b *builder) addNumber(i api.Inst) {
	if b.Kind(i.Type) == api.KindInt {
		b.numbers[i.Result] = i.Args[0].N
	}
}

// isNew says whether no type is made by such an instruction yet, and keeps that one is.
func (b *builder) isNew(i api.Inst) bool {
	key := strconv.AppendUint(nil, uint64(i.Op), 10)
	for _, a := range i.Args {
		key = strconv.AppendUint(append(key, ' '), uint64(a.N), 10)
	}
	if _, is := b.makers[string(key)]; is {
		return false
	}
	b.makers[string(key)] = i.Result
	return true
}

// read is the type that an instruction makes, without its size and its depth, if its arguments may be so; one without a kind, if it makes none.
func (b *builder) read(i api.Inst) (entry, api.Errno) {
	switch i.Op {
	case opTypeVoid:
		return single(api.KindVoid), api.OK
	case opTypeBool:
		return single(api.KindBool), api.OK
	case opTypeInt:
		return number(i.Args[0].N, i.Args[1].N)
	case opTypeVector:
		return b.vector(i.Args[0].N, i.Args[1].N)
	case opTypeArray:
		return b.array(i.Args[0].N, i.Args[1].N)
	case opTypeStruct:
		return b.structOf(code.Ids(i))
	case opTypePointer:
		return b.pointer(i.Args[0].N, i.Args[1].N)
	case opTypeFunction:
		return b.function(code.Ids(i))
	}
	return entry{}, api.OK
}

// number is the type of numbers of so many bits.
func number(width, sign uint32) (entry, api.Errno) {
	if width != 32 || sign > 1 {
		return entry{}, api.ErrSize
	}
	x := single(api.KindInt)
	x.signed = sign == 1
	return x, api.OK
}

// vector is the type of vectors of so many parts.
func (b *builder) vector(part, count uint32) (entry, api.Errno) {
	switch b.Kind(part) {
	case api.KindBool, api.KindInt:
	default:
		return entry{}, api.ErrNoType
	}
	if count < 2 || count > 4 {
		return entry{}, api.ErrSize
	}
	return repeated(api.KindVector, part, int(count)), api.OK
}

// array is the type of arrays of as many parts as a constant says.
func (b *builder) array(part, length uint32) (entry, api.Errno) {
	if !b.Plain(part) {
		return entry{}, api.ErrNoType
	}
	// What is no such constant says 0 here, which is refused as well.
	count := b.numbers[length]
	if count < 1 || count > api.MaxSize {
		return entry{}, api.ErrSize
	}
	return repeated(api.KindArray, part, int(count)), api.OK
}

// structOf is the type of structs of these members.
func (b *builder) structOf(members []uint32) (entry, api.Errno) {
	if len(members) < 1 || len(members) > api.MaxMembers {
		return entry{}, api.ErrSize
	}
	if !allOf(members, b.Plain) {
		return entry{}, api.ErrNoType
	}
	return listed(api.KindStruct, members), api.OK
}

// pointer is the type of pointers of a class.
func (b *builder) pointer(class, to uint32) (entry, api.Errno) {
	if !b.Plain(to) {
		return entry{}, api.ErrNoType
	}
	x := listed(api.KindPointer, []uint32{to})
	x.class = class
	return x, api.OK
}

// function is the type of functions of these parts: what they answer, then their parameters.
func (b *builder) function(parts []uint32) (entry, api.Errno) {
	answer, parameters := parts[0], parts[1:]
	if b.Kind(answer) != api.KindVoid && !b.Plain(answer) {
		return entry{}, api.ErrNoType
	}
	if !allOf(parameters, b.handed) {
		return entry{}, api.ErrNoType
	}
	return listed(api.KindFunction, parts), api.OK
}

// handed says whether a function may have a parameter of a type.
func (b *builder) handed(id uint32) bool {
	return b.Plain(id) || b.Kind(id) == api.KindPointer
}

// allOf says whether all ids are such ones.
func allOf(l []uint32, such func(id uint32) bool) bool {
	return !slices.ContainsFunc(l, func(id uint32) bool { return !such(id) })
}
