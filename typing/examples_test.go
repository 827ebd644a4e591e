package typing

import (
	"slices"
	"strings"
	"testing"

	"intaglio/api"
)

// The chapter's examples, with the names that its lines give: i, u, b, w, s are no constants.
func example(line string) reading {
	if formOf(line).Result {
		line = "%new = " + line
	}
	return read(slices.Concat(strings.Split(strings.TrimSpace(`
OpMemoryModel Logical Simple
%V = OpTypeVoid
%I = OpTypeInt 32 1
%U = OpTypeInt 32 0
%B = OpTypeBool
%W = OpTypeVector %I 2
%S = OpTypeStruct %I %W
%P = OpTypePointer Function %S
%Q = OpTypePointer Function %I
%F = OpTypeFunction %V %I %U %B %W %S %P %Q
%1 = OpConstant %U 1
%f = OpFunction %V None %F
%i = OpFunctionParameter %I
%u = OpFunctionParameter %U
%b = OpFunctionParameter %B
%w = OpFunctionParameter %W
%s = OpFunctionParameter %S
%p = OpFunctionParameter %P
%q = OpFunctionParameter %Q
%l = OpLabel
`), "\n"), []string{"> " + line, "OpReturn", "OpFunctionEnd"})...)
}

// P18.1, P18.2: the chapter's examples.
func TestExamples(t *testing.T) {
	for _, c := range []struct {
		line string
		is   bool
	}{
		{"OpIAdd %I %i %u", true},
		{"OpIAdd %W %w %i", false},
		{"OpIEqual %B %i %u", true},
		{"OpIEqual %I %i %i", false},
		{"OpSelect %W %b %w %w", false},
		{"OpSelect %I %b %i %i", true},
		{"OpCompositeExtract %I %s 1 0", true},
		{"OpCompositeExtract %I %s 2", false},
		{"OpAccessChain %Q %p %1 %i", true},
		{"OpAccessChain %Q %p %i", false},
		{"OpStore %q %u", false},
		{"OpStore %q %i", true},
		{"OpLoad %I %q", true},
		{"OpLoad %U %q", false},
	} {
		r := example(c.line)
		holdFits(t, r, c.is, c.line)
		want := api.Spot{}
		if !c.is {
			want = typed(r.at)
		}
		if s := Check(r.Module); s != want {
			t.Errorf("Check of %s: %v; not %v", c.line, s, want)
		}
	}
}

// P18.1, P18.2: the chapter's examples of what ends a function.
func TestExampleReturns(t *testing.T) {
	holdFits(t, fun("OpFunction %I None %fI", nil, "> OpReturnValue %vI"), true, "a number, of a function of I")
	holdFits(t, fun("OpFunction %V None %fV", nil, "> OpReturnValue %vI"), false, "a number, of a function of OpTypeVoid")
	holdFits(t, fun("OpFunction %I None %fI", nil, "> OpReturn"), false, "nothing, of a function of I")
}

// P18.3: Type of all ids of the chapter's examples.
func TestExampleTypes(t *testing.T) {
	r := example("OpIAdd %I %i %u")
	of := map[string]string{"1": "U", "i": "I", "u": "U", "b": "B", "w": "W", "s": "S", "p": "P", "q": "Q", "new": "I"}
	for name, id := range r.named {
		want, fault := r.named[of[name]], api.Spot{}
		if want == 0 {
			fault = spot(api.ErrNone, 0)
		}
		if typeId, s := Type(r.Module, id); typeId != want || s != fault {
			t.Errorf("Type of %s: %d, %v; not %d, %v", name, typeId, s, want, fault)
		}
	}
}
