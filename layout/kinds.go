package layout

import (
	"intaglio/api"
	"intaglio/grammar"
)

// The operations that the order tells apart.
const (
	opFunction          = 54
	opFunctionParameter = 55
	opFunctionEnd       = 56
	opVariable          = 59
	opPhi               = 245
	opLoopMerge         = 246
	opSelectionMerge    = 247
	opLabel             = 248
	opBranch            = 249
	opBranchConditional = 250
	opSwitch            = 251
	opKill              = 252
	opReturn            = 253
	opReturnValue       = 254
	opUnreachable       = 255
)

// classFunction is the class of variables that stand in a function.
const classFunction = 7

// The parts that the order tells apart from others.
const (
	modelPart     = 1
	functionsPart = 8
	endPart       = 9
)

// kind is what an instruction is to a function's order. They are bits: an ender may be several things.
type kind uint16

const (
	function kind = 1 << iota
	parameter
	functionEnd
	label
	variable
	phi
	plain // what may stand in every block, as often as one likes
	selectionMerge
	loopMerge
	ender
	endsSelection // an ender that may stand behind a selection's merge
	endsLoop      // one that may stand behind a loop's
)

// foreign is the kind of what stands in no function, and of the end.
const foreign kind = 0

// kindOf tells what an operation is in a function.
func kindOf(op uint16) kind {
	var k kind
	switch op {
	case opFunction:
		k = function
	case opFunctionParameter:
		k = parameter
	case opFunctionEnd:
		k = functionEnd
	case opLabel:
		k = label
	case opVariable:
		k = variable
	case opPhi:
		k = phi
	case opSelectionMerge:
		k = selectionMerge
	case opLoopMerge:
		k = loopMerge
	case opBranchConditional:
		k |= endsSelection
		fallthrough
	case opBranch:
		k |= endsLoop
		fallthrough
	case opKill, opReturn, opReturnValue, opUnreachable:
		k |= ender
	case opSwitch:
		k = ender | endsSelection
	default:
		k = plain
	}
	return k
}

// partOf is the part of an instruction, which is of good shape: a variable has its class.
func partOf(i api.Inst) uint8 {
	if i.Op == opVariable && i.Args[0].N == classFunction {
		return functionsPart
	}
	f, _ := grammar.Of(i.Op)
	return f.Part
}
