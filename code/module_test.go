package code

import (
	"bytes"
	"math"
	"slices"
	"strings"
	"sync"
	"testing"

	"intaglio/api"
)

// small is a module of several instructions, and its bytes.
func small() (api.Module, []byte) {
	m := api.Module{Generator: 7, Bound: 9, Insts: []api.Inst{
		inst(17, 0, 0, enum(1)),
		inst(5, 0, 0, id(3), text("main")),
		inst(253, 0, 0),
		inst(0x80, 1, 2, id(3), id(4)),
	}}
	return m, moduleOf(0x00020011, 1, 0x00040005, 3, 0x6e69616d, 0, 0x000100fd, 0x00050080, 1, 2, 3, 4)
}

// structs is a module of so many words, its head among them: OpTypeStruct, with ids of 1.
func structs(n int) api.Module {
	m := api.Module{Bound: 2}
	for left := n - 5; left > 0; {
		count := min(left, api.MaxCount)
		// What is left over must be enough for an instruction with a result.
		if left-count == 1 {
			count--
		}
		m.Insts = append(m.Insts, inst(30, 0, 1, slices.Repeat([]api.Arg{id(1)}, count-2)...))
		left -= count
	}
	return m
}

// P4.3: a module's bytes.
func TestEncode(t *testing.T) {
	chapters, bytesOfIt := small()
	for _, c := range []struct {
		name string
		m    api.Module
		want []byte
	}{
		{"several instructions", chapters, bytesOfIt},
		{"a head alone", api.Module{Generator: 7, Bound: 9}, moduleOf()},
		{"the least bound", api.Module{Bound: 1}, bytesOf(0x07230203, 0x00010000, 0, 1, 0)},
		{"the greatest bound", api.Module{Bound: api.MaxBound}, bytesOf(0x07230203, 0x00010000, 0, 65536, 0)},
		{"a huge generator", api.Module{Generator: math.MaxUint32, Bound: 1, Insts: []api.Inst{}}, bytesOf(0x07230203, 0x00010000, math.MaxUint32, 1, 0)},
		{"the document's first", api.Module{Generator: 9, Bound: 5, Insts: []api.Inst{inst(20, 0, 1)}},
			[]byte{3, 2, 0x23, 7, 0, 0, 1, 0, 9, 0, 0, 0, 5, 0, 0, 0, 0, 0, 0, 0, 0x14, 0, 2, 0, 1, 0, 0, 0}},
	} {
		if b, s := Encode(c.m); s != (api.Spot{}) || !bytes.Equal(b, c.want) {
			t.Errorf("%s: % x, %v", c.name, b, s)
		}
		if s := Shape(c.m); s != (api.Spot{}) {
			t.Errorf("%s: Shape: %v", c.name, s)
		}
	}
}

// P4.3: modules that are not of good shape, with the place of what is wrong; R2: Encode answers no bytes beside it.
func TestShapeRefuses(t *testing.T) {
	ok, bad := inst(253, 0, 0), inst(22, 0, 0)
	full := structs(api.MaxWords).Insts
	long := inst(30, 0, 1, slices.Repeat([]api.Arg{id(1)}, api.MaxCount-1)...)
	for _, c := range []struct {
		name  string
		bound uint32
		l     []api.Inst
		s     api.Spot
	}{
		{"no bound", 0, nil, api.Spot{Err: api.ErrBound}},
		{"a bound above the greatest", api.MaxBound + 1, nil, api.Spot{Err: api.ErrBound}},
		{"a huge bound", math.MaxUint32, nil, api.Spot{Err: api.ErrBound}},
		{"no bound, ahead of what is no operation", 0, []api.Inst{bad}, api.Spot{Err: api.ErrBound}},
		{"a bound above the greatest, ahead of all else", api.MaxBound + 1, []api.Inst{ok, bad}, api.Spot{Err: api.ErrBound}},
		{"no operation", 9, []api.Inst{bad}, api.Spot{Err: api.ErrOp}},
		{"no operation behind others", 9, []api.Inst{ok, ok, bad, ok}, api.Spot{Err: api.ErrOp, At: 2}},
		{"the first of two", 9, []api.Inst{ok, inst(248, 0, 0), bad}, api.Spot{Err: api.ErrResult, At: 1}},
		{"a type", 9, []api.Inst{ok, inst(253, 1, 0)}, api.Spot{Err: api.ErrType, At: 1}},
		{"an operand", 9, []api.Inst{ok, inst(62, 0, 0, id(3))}, api.Spot{Err: api.ErrOperand, At: 1}},
		{"an id that is the bound", 9, []api.Inst{ok, inst(248, 0, 9)}, api.Spot{Err: api.ErrId, At: 1}},
		{"an id by the least bound", 1, []api.Inst{inst(248, 0, 1)}, api.Spot{Err: api.ErrId}},
		{"an id that is the greatest bound", api.MaxBound, []api.Inst{inst(248, 0, api.MaxBound)}, api.Spot{Err: api.ErrId}},
		{"an enumerant", 9, []api.Inst{ok, inst(17, 0, 0, enum(2))}, api.Spot{Err: api.ErrEnum, At: 1}},
		{"a text", 9, []api.Inst{ok, inst(7, 0, 1, text("\x00"))}, api.Spot{Err: api.ErrNul, At: 1}},
		{"too many words of one", 9, []api.Inst{ok, long}, api.Spot{Err: api.ErrCount, At: 1}},
		{"too many words of all", 2, append(slices.Clone(full), ok), api.Spot{Err: api.ErrLarge, At: len(full)}},
		{"too many words, ahead of a fault behind", 2, append(slices.Clone(full), ok, bad), api.Spot{Err: api.ErrLarge, At: len(full)}},
		{"too many words, behind a fault ahead", 2, append([]api.Inst{bad}, full...), api.Spot{Err: api.ErrOp}},
		{"a fault, ahead of too many words with it", 2, append(slices.Clone(full), inst(248, 0, 2)), api.Spot{Err: api.ErrId, At: len(full)}},
		{"too many words of one, ahead of too many of all", 2, append(slices.Clone(full), long), api.Spot{Err: api.ErrCount, At: len(full)}},
		{"the first that is too many", 2, append([]api.Inst{ok}, full...), api.Spot{Err: api.ErrLarge, At: len(full)}},
	} {
		m := api.Module{Generator: 7, Bound: c.bound, Insts: c.l}
		if s := Shape(m); s != c.s {
			t.Errorf("%s: %v", c.name, s)
		}
		if b, s := Encode(m); s != c.s || len(b) != 0 {
			t.Errorf("%s: Encode: %d bytes, %v", c.name, len(b), s)
		}
	}
}

// P4.3, P4.4: as many words as a module may have, there and back; one more.
func TestModuleAtLimit(t *testing.T) {
	m := structs(api.MaxWords)
	b, s := Encode(m)
	if s != (api.Spot{}) || len(b) != 4*api.MaxWords {
		t.Fatalf("%d bytes, %v", len(b), s)
	}
	if back, s := Decode(b); s != (api.Spot{}) || !alikeModules(back, m) {
		t.Errorf("%d instructions, %v", len(back.Insts), s)
	}
	for more := 1; more <= 4; more++ {
		if m, s := Decode(append(b, make([]byte, more)...)); s != (api.Spot{Err: api.ErrLarge}) || !alikeModules(m, api.Module{}) {
			t.Errorf("%d bytes more: %v", more, s)
		}
	}
	over := structs(api.MaxWords + 1)
	if s := Shape(over); s != (api.Spot{Err: api.ErrLarge, At: len(over.Insts) - 1}) {
		t.Errorf("one word more: %v", s)
	}
	single := api.Module{Bound: 1, Insts: slices.Repeat([]api.Inst{inst(253, 0, 0)}, api.MaxWords-5)}
	if s := Shape(single); s != (api.Spot{}) {
		t.Errorf("instructions of one word: %v", s)
	}
	single.Insts = append(single.Insts, inst(253, 0, 0))
	if s := Shape(single); s != (api.Spot{Err: api.ErrLarge, At: api.MaxWords - 5}) {
		t.Errorf("one instruction more: %v", s)
	}
}

// R1: instructions that share a long list are not put together beyond what a module may have.
func TestShapeOfEndless(t *testing.T) {
	args := slices.Repeat([]api.Arg{id(1)}, api.MaxCount-2)
	m := api.Module{Bound: 2, Insts: slices.Repeat([]api.Inst{inst(30, 0, 1, args...)}, 1<<20)}
	if s := Shape(m); s != (api.Spot{Err: api.ErrLarge, At: 16}) {
		t.Errorf("%v", s)
	}
	if b, s := Encode(m); s != (api.Spot{Err: api.ErrLarge, At: 16}) || len(b) != 0 {
		t.Errorf("Encode: %d bytes, %v", len(b), s)
	}
}

// P4.4: the module of bytes.
func TestDecode(t *testing.T) {
	want, b := small()
	if m, s := Decode(b); s != (api.Spot{}) || !alikeModules(m, want) {
		t.Errorf("%v, %v", m, s)
	}
	if m, s := Decode(moduleOf()); s != (api.Spot{}) || !alikeModules(m, api.Module{Generator: 7, Bound: 9}) {
		t.Errorf("a head alone: %v, %v", m, s)
	}
	first := []byte{3, 2, 0x23, 7, 0, 0, 1, 0, 9, 0, 0, 0, 5, 0, 0, 0, 0, 0, 0, 0, 0x14, 0, 2, 0, 1, 0, 0, 0}
	if m, s := Decode(first); s != (api.Spot{}) || !alikeModules(m, api.Module{Generator: 9, Bound: 5, Insts: []api.Inst{inst(20, 0, 1)}}) {
		t.Errorf("the document's first: %v, %v", m, s)
	}
	all := sampleModule()
	b, _ = Encode(all)
	if m, s := Decode(b); s != (api.Spot{}) || !alikeModules(m, all) {
		t.Errorf("all forms: %d instructions, %v", len(m.Insts), s)
	}
}

// P4.4: bytes that are no module, with the place of the word; R2: of several faults the one that is asked first, and no module beside it.
func TestDecodeRefuses(t *testing.T) {
	_, whole := small()
	turned := slices.Clone(whole)
	for i := 0; i < len(turned); i += 4 {
		slices.Reverse(turned[i : i+4])
	}
	for _, c := range []struct {
		name string
		b    []byte
		s    api.Spot
	}{
		{"three bytes", []byte{1, 2, 3}, api.Spot{Err: api.ErrLength}},
		{"no bytes", nil, api.Spot{Err: api.ErrEnd}},
		{"a byte more", append(slices.Clone(whole), 0), api.Spot{Err: api.ErrLength}},
		{"a byte less", whole[:len(whole)-1], api.Spot{Err: api.ErrLength}},
		{"more than there may be, no whole words", make([]byte, 4*api.MaxWords+1), api.Spot{Err: api.ErrLarge}},
		{"more than there may be", make([]byte, 4*api.MaxWords+4), api.Spot{Err: api.ErrLarge}},
		{"as many as there may be, of 0", make([]byte, 4*api.MaxWords), api.Spot{Err: api.ErrMagic}},
		{"one word of the head", whole[:4], api.Spot{Err: api.ErrEnd, At: 1}},
		{"four words of the head", whole[:16], api.Spot{Err: api.ErrEnd, At: 4}},
		{"the other order of bytes", turned, api.Spot{Err: api.ErrSwapped}},
		{"another magic", bytesOf(7), api.Spot{Err: api.ErrMagic}},
		{"another version", bytesOf(0x07230203, 0x00010100, 7, 9, 0), api.Spot{Err: api.ErrVersion, At: 1}},
		{"no bound", bytesOf(0x07230203, 0x00010000, 7, 0, 0), api.Spot{Err: api.ErrBound, At: 3}},
		{"a bound above the greatest", bytesOf(0x07230203, 0x00010000, 7, 65537, 0), api.Spot{Err: api.ErrBound, At: 3}},
		{"another schema", bytesOf(0x07230203, 0x00010000, 7, 9, 1), api.Spot{Err: api.ErrSchema, At: 4}},
		{"cut within the last instruction", whole[:len(whole)-4], api.Spot{Err: api.ErrCount, At: 12}},
		{"an instruction of no words", moduleOf(0x00000011), api.Spot{Err: api.ErrCount, At: 5}},
		{"the chapter's enumerant", moduleOf(0x00020011, 2), api.Spot{Err: api.ErrEnum, At: 5}},
		{"an operation that is none", moduleOf(0x00010016), api.Spot{Err: api.ErrOp, At: 5}},
		{"the third instruction", moduleOf(0x00020011, 1, 0x00040005, 3, 0x6e69616d, 0, 0x00050080, 1, 2, 3, 9), api.Spot{Err: api.ErrId, At: 11}},
		{"a type lacks", moduleOf(0x000100fd, 0x00010080), api.Spot{Err: api.ErrType, At: 6}},
		{"a result lacks", moduleOf(0x000100fd, 0x00020080, 1), api.Spot{Err: api.ErrResult, At: 6}},
		{"an operand lacks", moduleOf(0x000100fd, 0x00040080, 1, 2, 3), api.Spot{Err: api.ErrOperand, At: 6}},
		{"a text that does not end", moduleOf(0x000100fd, 0x00030005, 3, 0x61616161, 0x000100fd), api.Spot{Err: api.ErrText, At: 6}},
		{"bytes behind a text's end", moduleOf(0x000100fd, 0x00030005, 3, 0x61006161), api.Spot{Err: api.ErrPad, At: 6}},
		{"the first of two", moduleOf(0x00020011, 2, 0x00010016), api.Spot{Err: api.ErrEnum, At: 5}},
		{"a bad count behind, ahead of a bad instruction", moduleOf(0x00010016, 0x00030011, 1), api.Spot{Err: api.ErrCount, At: 6}},
		{"an id by the head's bound", bytesOf(0x07230203, 0x00010000, 7, 1, 0, 0x000200f8, 1), api.Spot{Err: api.ErrId, At: 5}},
	} {
		if m, s := Decode(c.b); s != c.s || !alikeModules(m, api.Module{}) {
			t.Errorf("%s: %v, %v", c.name, m, s)
		}
	}
}

// P4.4: the document's second example.
func TestDecodeSecondExample(t *testing.T) {
	first := []byte{3, 2, 0x23, 7, 0, 0, 1, 0, 9, 0, 0, 0, 5, 0, 0, 0, 0, 0, 0, 0, 0x14, 0, 2, 0, 1, 0, 0, 0}
	for _, c := range []struct {
		name string
		at   int
		b    []byte
		s    api.Spot
	}{
		{"three words", 20, []byte{0x14, 0, 3, 0}, api.Spot{Err: api.ErrCount, At: 5}},
		{"another operation", 20, []byte{0x16, 0, 2, 0}, api.Spot{Err: api.ErrOp, At: 5}},
		{"the other order", 0, []byte{7, 0x23, 2, 3}, api.Spot{Err: api.ErrSwapped}},
	} {
		b := slices.Clone(first)
		copy(b[c.at:], c.b)
		if _, s := Decode(b); s != c.s {
			t.Errorf("%s: %v", c.name, s)
		}
	}
	if _, s := Decode(first[:27]); s != (api.Spot{Err: api.ErrLength}) {
		t.Errorf("a byte less: %v", s)
	}
}

// P4.5: Same, of modules that are it, whether they are of good shape or not.
func TestSame(t *testing.T) {
	m, _ := small()
	bad := api.Module{Generator: 1, Insts: []api.Inst{inst(22, 7, 7, api.Arg{Kind: 77, N: 5, S: "a\x00"})}}
	for _, x := range []api.Module{{}, m, sampleModule(), bad} {
		if !Same(x, x) || !Same(x, apart(x)) || !Same(apart(x), x) {
			t.Errorf("not the same: %v", x)
		}
	}
	if !Same(api.Module{Bound: 1}, api.Module{Bound: 1, Insts: []api.Inst{}}) {
		t.Errorf("no instructions, nil or empty")
	}
	if !Same(api.Module{Insts: []api.Inst{{Op: 253}}}, api.Module{Insts: []api.Inst{{Op: 253, Args: []api.Arg{}}}}) {
		t.Errorf("no arguments, nil or empty")
	}
}

// P4.5: Same, of modules that differ in one field.
func TestSameDiffers(t *testing.T) {
	m, _ := small()
	for _, c := range []struct {
		name   string
		change func(*api.Module)
	}{
		{"the generator", func(m *api.Module) { m.Generator++ }},
		{"the bound", func(m *api.Module) { m.Bound++ }},
		{"an instruction less", func(m *api.Module) { m.Insts = m.Insts[:3] }},
		{"an instruction more", func(m *api.Module) { m.Insts = append(m.Insts, api.Inst{}) }},
		{"no instructions", func(m *api.Module) { m.Insts = nil }},
		{"the order", func(m *api.Module) { m.Insts[0], m.Insts[2] = m.Insts[2], m.Insts[0] }},
		{"the first operation", func(m *api.Module) { m.Insts[0].Op++ }},
		{"the last operation", func(m *api.Module) { m.Insts[3].Op++ }},
		{"a type", func(m *api.Module) { m.Insts[3].Type = 2 }},
		{"a result", func(m *api.Module) { m.Insts[3].Result = 1 }},
		{"type and result", func(m *api.Module) { m.Insts[3].Type, m.Insts[3].Result = 2, 1 }},
		{"an argument less", func(m *api.Module) { m.Insts[3].Args = m.Insts[3].Args[:1] }},
		{"an argument more", func(m *api.Module) { m.Insts[3].Args = append(m.Insts[3].Args, api.Arg{}) }},
		{"the arguments' order", func(m *api.Module) { slices.Reverse(m.Insts[3].Args) }},
		{"a kind", func(m *api.Module) { m.Insts[3].Args[1].Kind = api.ArgNumber }},
		{"a number", func(m *api.Module) { m.Insts[3].Args[1].N++ }},
		{"a text", func(m *api.Module) { m.Insts[1].Args[1].S = "mais" }},
		{"a text beside an id", func(m *api.Module) { m.Insts[3].Args[0].S = "a" }},
		{"a number beside a text", func(m *api.Module) { m.Insts[1].Args[1].N = 1 }},
	} {
		x := apart(m)
		c.change(&x)
		if Same(x, m) || Same(m, x) {
			t.Errorf("the same: %s", c.name)
		}
	}
}

// P4.5: Ids, of whatever instruction.
func TestIds(t *testing.T) {
	for _, c := range []struct {
		name string
		i    api.Inst
		want []uint32
	}{
		{"the chapter's", inst(0x80, 1, 2, id(3), id(3)), []uint32{1, 3, 3}},
		{"nothing", api.Inst{}, nil},
		{"a result alone", inst(248, 0, 7), nil},
		{"a type alone", inst(1, 5, 7), []uint32{5}},
		{"a type that is named again", inst(0x80, 4, 4, id(4), id(2)), []uint32{4, 4, 2}},
		{"among others", inst(15, 0, 0, enum(4), id(9), text("main"), id(7), id(8)), []uint32{9, 7, 8}},
		{"numbers are none", inst(251, 0, 0, id(1), id(2), num(5), id(3)), []uint32{1, 2, 3}},
		{"an id that is 0", inst(62, 0, 0, id(0), id(2)), []uint32{0, 2}},
		{"no operation", inst(22, math.MaxUint32, 1, id(math.MaxUint32), api.Arg{Kind: 9, N: 4}, api.Arg{N: 4}), []uint32{math.MaxUint32, math.MaxUint32}},
		{"more than its form has", inst(253, 3, 4, id(5), api.Arg{Kind: api.ArgId, N: 6, S: "a"}), []uint32{3, 5, 6}},
	} {
		if l := Ids(c.i); !slices.Equal(l, c.want) {
			t.Errorf("%s: %v", c.name, l)
		}
	}
}

// P4.6, P1: of all bytes Decode answers an error or a module of good shape, and Encode of that is those bytes: each byte of a module, changed.
func TestEncodeOfDecode(t *testing.T) {
	_, b := small()
	b = append(b, bytesOf(0x0006000f, 4, 3, 0x64636261, 0, 5, 0x000500f5, 1, 2, 3, 4, 0x0004003b, 1, 2, 6)...)
	read := 0
	for at := range b {
		for x := range 256 {
			changed := slices.Clone(b)
			changed[at] = byte(x)
			if backIs(t, changed) {
				read++
			}
		}
	}
	if read < 1000 {
		t.Errorf("only %d are modules", read)
	}
}

// backIs says whether bytes are a module, and sees to it that they are its bytes.
func backIs(t *testing.T, b []byte) bool {
	t.Helper()
	m, s := Decode(b)
	if s.Err != api.OK {
		if !alikeModules(m, api.Module{}) {
			t.Fatalf("% x: %v, %v", b, m, s)
		}
		return false
	}
	if s := Shape(m); s != (api.Spot{}) {
		t.Fatalf("% x: Shape: %v", b, s)
	}
	if back, s := Encode(m); s != (api.Spot{}) || !bytes.Equal(back, b) {
		t.Fatalf("% x: % x, %v", b, back, s)
	}
	return true
}

// P4.6, P1: the same of words put together by chance.
func TestEncodeOfDecodeByChance(t *testing.T) {
	d := dice(6)
	all := samples()
	read := 0
	for range 50000 {
		var w []uint32
		for range d.below(4) {
			s := all[d.below(len(all))]
			own := slices.Clone(s.words)
			if n := len(own); n > 0 && d.below(3) == 0 {
				own[d.below(n)] = uint32(d.below(12))
			}
			w = append(w, uint32(len(own)+1)<<16|uint32(s.inst.Op))
			w = append(w, own...)
		}
		if n := len(w); n > 0 && d.below(4) == 0 {
			w[d.below(n)] ^= 1 << d.below(32)
		}
		if backIs(t, moduleOf(w...)) {
			read++
		}
	}
	if read < 5000 {
		t.Errorf("only %d are modules", read)
	}
}

// P4.6, P1: Decode of what Encode answers is the module, by Same.
func TestDecodeOfEncode(t *testing.T) {
	d := dice(8)
	all := samples()
	for range 2000 {
		m := api.Module{Generator: uint32(d.below(math.MaxInt32)), Bound: uint32(9 + d.below(api.MaxBound-8))}
		for range d.below(6) {
			m.Insts = append(m.Insts, all[d.below(len(all))].inst)
		}
		b, s := Encode(m)
		back, wrong := Decode(b)
		if s != (api.Spot{}) || wrong != (api.Spot{}) || !Same(back, m) || !alikeModules(back, m) {
			t.Fatalf("%v: %v, %v, %v", m, s, wrong, back)
		}
	}
}

// P4.6: modules of good shape that are not the same have unlike bytes.
func TestUnlikeModulesUnlikeBytes(t *testing.T) {
	l := []api.Module{{Bound: 50}, {Generator: 1, Bound: 50}, {Bound: 51}}
	for _, s := range samples() {
		l = append(l, api.Module{Bound: 50, Insts: []api.Inst{s.inst}})
	}
	for _, s := range []string{"", "a", "aa", "aaa", "aaaa", "aaaaa", "\x01", "a\x01"} {
		l = append(l, api.Module{Bound: 50, Insts: []api.Inst{inst(7, 0, 1, text(s))}})
		l = append(l, api.Module{Bound: 50, Insts: []api.Inst{inst(15, 0, 0, enum(0), id(1), text(s), id(1))}})
	}
	seen := map[string]api.Module{}
	for _, m := range l {
		b, s := Encode(m)
		if other, ok := seen[string(b)]; ok || s != (api.Spot{}) {
			t.Errorf("%v and %v, %v", m, other, s)
		}
		seen[string(b)] = m
	}
}

// R3: what is handed in is neither changed nor kept.
func TestModuleKeepsApart(t *testing.T) {
	want, b := small()
	own := append(slices.Clone(b), 1, 2, 3, 4)
	m, _ := Decode(own[: len(b) : len(b)+4])
	if !bytes.Equal(own, append(slices.Clone(b), 1, 2, 3, 4)) {
		t.Errorf("Decode changes what it is handed: % x", own)
	}
	clear(own)
	if !alikeModules(m, want) {
		t.Errorf("Decode keeps: %v", m)
	}
	got, _ := Encode(m)
	if !alikeModules(m, want) {
		t.Errorf("Encode changes what it is handed: %v", m)
	}
	clear(m.Insts[1].Args)
	clear(m.Insts)
	if !bytes.Equal(got, b) {
		t.Errorf("Encode keeps: % x", got)
	}
	i := inst(0x80, 1, 2, id(3), id(4))
	l := Ids(i)
	clear(l[:cap(l)])
	if !alike(i, inst(0x80, 1, 2, id(3), id(4))) || !slices.Equal(Ids(i), []uint32{1, 3, 4}) {
		t.Errorf("Ids: %v", i)
	}
}

// R3: no two lists of one answer share memory, the room behind their ends neither.
func TestDecodeListsApart(t *testing.T) {
	m := sampleModule()
	b, _ := Encode(m)
	for at := range m.Insts {
		x, _ := Decode(b)
		args := x.Insts[at].Args
		args = args[:cap(args)]
		for i := range args {
			args[i] = api.Arg{Kind: 77}
		}
		x.Insts[at].Args = m.Insts[at].Args
		if !alikeModules(x, m) {
			t.Fatalf("the arguments of %v share memory with others", m.Insts[at])
		}
	}
}

// R1: calls end and don't panic at huge and at empty things.
func TestNothingAndHuge(t *testing.T) {
	long := text(strings.Repeat("a", 1<<24))
	if _, e := Raw(inst(7, 0, 1, long), 9); e != api.ErrCount {
		t.Errorf("a huge text: %d", e)
	}
	if _, e := Inst(raw(7, make([]uint32, 1<<22)...), 9); e != api.ErrCount {
		t.Errorf("huge words: %d", e)
	}
	if _, e := Inst(api.Raw{}, 0); e != api.ErrOp {
		t.Errorf("nothing: %d", e)
	}
	if _, e := Raw(api.Inst{}, 0); e != api.ErrOp {
		t.Errorf("nothing: %d", e)
	}
	if s := Shape(api.Module{}); s != (api.Spot{Err: api.ErrBound}) {
		t.Errorf("nothing: %v", s)
	}
	if !Same(api.Module{}, api.Module{}) || len(Ids(api.Inst{})) != 0 {
		t.Errorf("nothing")
	}
}

// R5: what is answered hangs on the arguments alone, whatever was asked ahead, and whoever asks at the same time.
func TestAnswersHangOnArguments(t *testing.T) {
	m := sampleModule()
	want, _ := Encode(m)
	_, bad := small()
	bad[24] = 2
	var all sync.WaitGroup
	for range 8 {
		all.Go(func() {
			for range 20 {
				b, s := Encode(m)
				if s != (api.Spot{}) || !bytes.Equal(b, want) {
					t.Errorf("Encode: %d bytes, %v", len(b), s)
				}
				if x, s := Decode(bad); s != (api.Spot{Err: api.ErrEnum, At: 5}) || !alikeModules(x, api.Module{}) {
					t.Errorf("Decode of bad bytes: %v", s)
				}
				if x, s := Decode(want); s != (api.Spot{}) || !alikeModules(x, m) || !Same(x, m) {
					t.Errorf("Decode: %v", s)
				}
			}
		})
	}
	all.Wait()
}
