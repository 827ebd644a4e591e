package consts

import (
	"slices"
	"testing"
)

// P11.4: the chapter's examples.
func TestVariableExamples(t *testing.T) {
	p := pool(t, fronted("%30 = OpConstantComposite %6 %18 %18", "%50 = OpVariable %11 Private", "%51 = OpVariable %11 Private %30"))
	holdVariable(t, p, 50, 6, 6, 0, 0)
	holdVariable(t, p, 51, 6, 6, 7, 7)
}

// P11.4: variables of each class, with and without a second argument.
func TestVariableOfEach(t *testing.T) {
	p := pool(t, many())
	holdVariable(t, p, 50, 6, 6, 0, 0)
	holdVariable(t, p, 51, 6, 6, 7, 3)
	holdVariable(t, p, 52, 3, 6, 0, 0)
	holdVariable(t, p, 53, 3, 6, 0, 0)
	holdVariable(t, p, 54, 1, 6, 0, 0)
	holdVariable(t, p, 55, 6, 9, 1, 7, 3, 1<<32-1, 1<<31-1, 1<<32-1)
	holdVariable(t, p, 56, 6, 9, 0, 0, 0, 0, 0, 0)
	holdVariable(t, p, 57, 6, 6, 0, 0)
	p = pool(t, fronted("%30 = OpConstantComposite %6 %5 %18", "%31 = OpTypePointer Output %2", "%32 = OpTypePointer Input %10", "%50 = OpVariable %12 Output %30", "%51 = OpVariable %31 Output %19", "%52 = OpVariable %32 Input"))
	holdVariable(t, p, 50, 3, 6, 3, 7)
	holdVariable(t, p, 51, 3, 2, 1)
	holdVariable(t, p, 52, 1, 10, make([]uint32, 18)...)
}

// P11.4: Variables are by the places of their instructions, not by their numbers; those of functions are none of them.
func TestVariables(t *testing.T) {
	if l := pool(t, many()).Variables(); !slices.Equal(l, []uint32{50, 51, 52, 53, 54, 55, 56, 57}) {
		t.Errorf("Variables: %v", l)
	}
	p := pool(t, fronted("%60 = OpVariable %11 Private", "%30 = OpConstantNull %6", "%59 = OpVariable %12 Output %30", "%98 = OpVariable %13 Input", "%40 = OpVariable %11 Private"))
	if l := p.Variables(); !slices.Equal(l, []uint32{60, 59, 98, 40}) {
		t.Errorf("Variables: %v", l)
	}
	if l := pool(t, fronted()).Variables(); len(l) != 0 {
		t.Errorf("Variables: %v", l)
	}
}

// P11.4: what is no variable of the module: 0, an id that is not made, a type, a constant, a text's id, a function, variables of functions, ids above the bound.
func TestNoVariable(t *testing.T) {
	p := pool(t, many())
	for _, id := range append(noIds(), 1, 2, 5, 6, 11, 15, 17, 18, 19, 20, 24, 30, 41, 48, 58, 60, 61, 62, 63) {
		holdNoVariable(t, p, id)
	}
	for _, id := range append(noIds(), 1, 2, 3) {
		holdNoVariable(t, pool(t, modelled("%1 = OpTypeBool")), id)
	}
}
