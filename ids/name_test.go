package ids

import (
	"math"
	"strings"
	"testing"

	"intaglio/api"
)

// holdName says whether an id has that name.
func holdName(t *testing.T, m api.Module, id uint32, want string) {
	t.Helper()
	if s, is := Name(m, id); !is || s != want {
		t.Errorf("Name of %d: %q, %v; not %q", id, s, is, want)
	}
}

// holdNoName says whether an id has no name, and no bytes beside that.
func holdNoName(t *testing.T, m api.Module, id uint32) {
	t.Helper()
	if s, is := Name(m, id); is || s != "" {
		t.Errorf("Name of %d: %q, %v", id, s, is)
	}
}

// P9.5: the chapter's example, and names of a shader.
func TestName(t *testing.T) {
	m := modelled(9, `OpName %2 "its text"`, "%1 = OpTypeVector %2 2", "%2 = OpTypeBool")
	holdName(t, m, 2, "its text")
	holdNoName(t, m, 1)
	holdName(t, shader(), 10, "main")
	holdName(t, shader(), 9, "colour")
	holdNoName(t, shader(), 3)
}

// P9.5: of several names the first one, whatever they say; an id need not be made, nor the module be in order.
func TestNameFirst(t *testing.T) {
	m := read(9, "OpReturn", `OpName %3 "c"`, `OpName %4 "first"`, `OpName %4 "a"`, `OpName %3 "zzz"`, `OpName %4 ""`, `OpName %5 ""`, `OpName %5 "later"`, `OpName %8 "c"`)
	holdName(t, m, 3, "c")
	holdName(t, m, 4, "first")
	holdName(t, m, 5, "")
	holdName(t, m, 8, "c")
	holdNoName(t, m, 1)
	holdNoName(t, m, 7)
}

// P9.5: what is like a name, and is none: a member's, an entry point's, a text; the number of an argument that is no id.
func TestNameOfOthers(t *testing.T) {
	m := read(9, `OpMemberName %1 2 "member"`, `OpEntryPoint Vertex %1 "entry" %2`, `%1 = OpString "string"`, `OpDecorate %1 Location 2`)
	for id := range uint32(9) {
		holdNoName(t, m, id)
	}
	m.Insts = append(m.Insts, inst(5, 0, 0, anId(1), aText("name")))
	holdName(t, m, 1, "name")
	holdNoName(t, m, 2)
}

// P9.5: texts of all bytes, and long ones.
func TestNameTexts(t *testing.T) {
	for _, s := range []string{"", "a", "\n\x01\xff\"\\", "é", strings.Repeat("ab", 50000), strings.Repeat("\xff", 4*(api.MaxCount-2)-1)} {
		holdName(t, module(7, 2, inst(5, 0, 0, anId(1), aText(s))), 1, s)
	}
}

// P9.5: the greatest id, and numbers that are no ids.
func TestNameOfNoId(t *testing.T) {
	m := read(api.MaxBound, `OpName %65535 "last"`, `OpName %1 "one"`)
	holdName(t, m, 65535, "last")
	holdName(t, m, 1, "one")
	for _, m := range []api.Module{m, module(7, 1), modelled(1), shader()} {
		for _, id := range []uint32{0, max(m.Bound, 30), api.MaxBound, api.MaxBound + 1, 1<<16 + 1<<31, math.MaxUint32} {
			holdNoName(t, m, id)
		}
	}
}

// P9.5: a module that is not of good shape has no names, even where the fault stands behind the name.
func TestNameAsksShape(t *testing.T) {
	for _, c := range badShapes() {
		for _, id := range []uint32{0, 1, 2, math.MaxUint32} {
			if s, is := Name(c.m, id); is || s != "" {
				t.Errorf("%s: %q, %v", c.name, s, is)
			}
		}
	}
	for _, args := range [][]api.Arg{nil, {anId(1)}, {aText("a")}, {aText("a"), anId(1)}, {anId(1), aText("a"), anId(1)}, {aNumber(1), aText("a")}, {anId(1), aText("a\x00")}, {anId(1), {Kind: api.ArgText, N: 1, S: "a"}}} {
		m := module(7, 9, inst(5, 0, 0, args...))
		for id := range uint32(3) {
			holdNoName(t, m, id)
		}
	}
}
