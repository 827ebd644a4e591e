package types

import (
	"strings"
	"testing"
)

// P10.5: the texts of each kind, and of types of types.
func TestText(t *testing.T) {
	x := table(t, many())
	array := "array3(vec3(int))"
	inner := "struct(int," + array + ")"
	outer := "struct(" + inner + ",array1(bool),bool,vec2(bool)," + inner + ")"
	for id, want := range map[uint32]string{
		1: "void", 2: "bool", 3: "uint", 4: "int",
		6: "vec3(int)", 11: "vec2(bool)", 12: "vec4(uint)", 38: "vec3(uint)",
		7: array, 35: array, 13: "array1(bool)", 14: "array4096(uint)", 17: "array7(" + outer + ")",
		8: inner, 34: inner, 15: "struct(bool)", 16: outer, 39: "struct(uint,vec3(uint))",
		9: "Function(int)", 18: "Input(array7(" + outer + "))", 19: "Output(bool)", 30: "Private(array4096(uint))", 36: "Function(" + inner + ")", 37: "Function(" + inner + ")",
		10: "fn(void,int)", 31: "fn(array7(" + outer + "))", 32: "fn(void)", 33: "fn(bool,Input(array7(" + outer + "))," + outer + ",int,int)",
	} {
		holdText(t, x, id, want)
	}
}

// P10.5: a struct of as many members as there may be; types as deep as they may be.
func TestTextAtLimit(t *testing.T) {
	x := table(t, fronted(append([]string{"%6 = OpTypeStruct" + repeat("%2", 256)}, nested(20, "%6", 14)...)...))
	wide := "struct(bool" + strings.Repeat(",bool", 255) + ")"
	holdText(t, x, 6, wide)
	holdText(t, x, 33, strings.Repeat("struct(", 14)+wide+strings.Repeat(")", 14))
}
