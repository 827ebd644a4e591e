package typing

import (
	"slices"

	"intaglio/api"
)

// isFunction says whether a type is that of functions that answer a type, and have such parameters.
func (j *judge) isFunction(typeId, answer uint32, parameters []uint32) bool {
	return j.Kind(typeId) == api.KindFunction && j.hasParts(typeId, slices.Concat([]uint32{answer}, parameters))
}

// function asks that a function's type says what it answers, and what its parameters are.
func (b body) function(i api.Inst) bool {
	return b.isFunction(i.Args[1].N, i.Type, b.parameters)
}

// functionCall asks that the called function's type says what is handed in, and what comes of it.
func (b body) functionCall(i api.Inst) bool {
	called := b.makers[i.Args[0].N]
	return called.Op == opFunction && b.isFunction(called.Args[1].N, i.Type, b.ofAll(i.Args[1:]))
}

// phi asks that each value that may come is of the phi's type; behind each stands the block from which it comes.
func (b body) phi(i api.Inst) bool {
	for k := 0; k < len(i.Args); k += 2 {
		if b.of(i, k) != i.Type {
			return false
		}
	}
	return b.Plain(i.Type)
}

// branchConditional asks for a truth.
func (b body) branchConditional(i api.Inst) bool { return b.isTruth(b.of(i, 0)) }

// switchOver asks for a number.
func (b body) switchOver(i api.Inst) bool { return b.isNumber(b.of(i, 0)) }

// returnNothing asks that the function answers nothing.
func (b body) returnNothing(api.Inst) bool { return b.Kind(b.answer) == api.KindVoid }

// returnValue asks for what the function answers.
func (b body) returnValue(i api.Inst) bool {
	return b.Plain(b.answer) && b.of(i, 0) == b.answer
}
