package typing

import "intaglio/api"

// copyObject asks for a value of the same type.
func (b body) copyObject(i api.Inst) bool {
	return b.Plain(i.Type) && b.of(i, 0) == i.Type
}

// ofNumbers asks for numbers of one shape.
func (b body) ofNumbers(i api.Inst) bool {
	return b.areNumbers(i.Type) && b.alike(i.Type, i.Args)
}

// ofTruths asks for truths of one shape.
func (b body) ofTruths(i api.Inst) bool {
	return b.areTruths(i.Type) && b.alike(i.Type, i.Args)
}

// pairOfNumbers asks for two numbers of one shape, of which two come out.
func (b body) pairOfNumbers(i api.Inst) bool {
	if b.Kind(i.Type) != api.KindStruct {
		return false
	}
	part := b.part(i.Type, 0)
	return b.hasParts(i.Type, []uint32{part, part}) && b.areNumbers(part) && b.alike(part, i.Args)
}

// gathered asks for a vector of truths, of which one comes out.
func (b body) gathered(i api.Inst) bool {
	return b.isTruth(i.Type) && b.isTruth(b.element(b.of(i, 0)))
}

// selected asks for two values of what comes out, and for as many truths as choose between them.
func (b body) selected(i api.Inst) bool {
	switch b.Kind(i.Type) {
	case api.KindBool, api.KindInt, api.KindVector:
	default:
		return false
	}
	chooser := b.of(i, 0)
	return b.areTruths(chooser) && b.asWide(chooser, i.Type) && b.of(i, 1) == i.Type && b.of(i, 2) == i.Type
}

// compared asks for numbers of one shape, as many as truths come out.
func (b body) compared(i api.Inst) bool {
	first := b.of(i, 0)
	return b.areTruths(i.Type) && b.areNumbers(first) && b.asWide(first, i.Type) && b.alike(first, i.Args)
}

// bitField asks for numbers of one shape, and for the two numbers that say where the field is, which stand last.
func (b body) bitField(i api.Inst) bool {
	last := len(i.Args) - 2
	return b.areNumbers(i.Type) && b.alike(i.Type, i.Args[:last]) && b.isNumber(b.of(i, last)) && b.isNumber(b.of(i, last+1))
}
