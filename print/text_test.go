package print

import (
	"math"
	"slices"
	"strings"
	"testing"

	"intaglio/api"
	"intaglio/code"
)

// P8.2: the chapter's examples, and the first one of the document's first page.
func TestTextExamples(t *testing.T) {
	holdText(t, module(7, 9, inst(17, 0, 0, anEnum(1))), "module 7 9\nOpCapability Shader\n")
	holdRefused(t, api.Module{}, spot(api.ErrBound, 0))
	holdBytesRefused(t, []byte{3, 2, 0x23}, spot(api.ErrLength, 0))
	holdText(t, module(9, 5, inst(20, 0, 1)), "module 9 5\n%1 = OpTypeBool\n")
	b := []byte{3, 2, 0x23, 7, 0, 0, 1, 0, 9, 0, 0, 0, 5, 0, 0, 0, 0, 0, 0, 0, 0x14, 0, 2, 0, 1, 0, 0, 0}
	if s, e := Bytes(b); s != "module 9 5\n%1 = OpTypeBool\n" || e != (api.Spot{}) {
		t.Errorf("Bytes: %q, %v", s, e)
	}
}

// P8.2: modules without instructions, by the least and the greatest bound; ids at the bound's edges.
func TestTextEdges(t *testing.T) {
	holdText(t, module(0, 1), "module 0 1\n")
	holdText(t, module(math.MaxUint32, api.MaxBound), "module 4294967295 65536\n")
	holdText(t, api.Module{Generator: 1 << 31, Bound: 2, Insts: []api.Inst{}}, "module 2147483648 2\n")
	holdText(t, module(0, 1, inst(253, 0, 0)), "module 0 1\nOpReturn\n")
	holdText(t, module(0, 2, inst(1, 1, 1)), "module 0 2\n%1 = OpUndef %1\n")
	holdText(t, module(0, api.MaxBound, inst(1, 65535, 1), inst(1, 1, 65535), inst(249, 0, 0, anId(65535))), "module 0 65536\n%1 = OpUndef %65535\n%65535 = OpUndef %1\nOpBranch %65535\n")
	holdText(t, module(0, 2, inst(7, 0, 1, aText("")), inst(7, 0, 1, aText("\n")), inst(7, 0, 1, aText(`"\`))), "module 0 2\n%1 = OpString \"\"\n%1 = OpString \"\\x0a\"\n%1 = OpString \"\\\"\\\\\"\n")
	holdText(t, module(0, 2, inst(43, 1, 1, aNumber(0)), inst(43, 1, 1, aNumber(math.MaxUint32))), "module 0 2\n%1 = OpConstant %1 0\n%1 = OpConstant %1 4294967295\n")
}

// P8.2: a module of several instructions, whether or not they are in order.
func TestText(t *testing.T) {
	m := module(3, 20,
		inst(17, 0, 0, anEnum(1)),
		inst(14, 0, 0, anEnum(0), anEnum(1)),
		inst(15, 0, 0, anEnum(4), anId(5), aText("main"), anId(6)),
		inst(16, 0, 0, anId(5), anEnum(7)),
		inst(5, 0, 0, anId(6), aText(`the "out"`)),
		inst(71, 0, 0, anId(6), anEnum(30), aNumber(0)),
		inst(19, 0, 1),
		inst(33, 0, 2, anId(1)),
		inst(21, 0, 3, aNumber(32), aNumber(1)),
		inst(32, 0, 4, anEnum(3), anId(3)),
		inst(59, 4, 6, anEnum(3)),
		inst(43, 3, 7, aNumber(math.MaxUint32)),
		inst(54, 1, 5, anEnum(0), anId(2)),
		inst(248, 0, 8),
		inst(62, 0, 0, anId(6), anId(7)),
		inst(253, 0, 0),
		inst(56, 0, 0),
	)
	want := `module 3 20
OpCapability Shader
OpMemoryModel Logical GLSL450
OpEntryPoint Fragment %5 "main" %6
OpExecutionMode %5 OriginUpperLeft
OpName %6 "the \"out\""
OpDecorate %6 Location 0
%1 = OpTypeVoid
%2 = OpTypeFunction %1
%3 = OpTypeInt 32 1
%4 = OpTypePointer Output %3
%6 = OpVariable %4 Output
%7 = OpConstant %3 4294967295
%5 = OpFunction %1 None %2
%8 = OpLabel
OpStore %6 %7
OpReturn
OpFunctionEnd
`
	holdText(t, m, want)
	slices.Reverse(m.Insts)
	l := strings.Split(strings.TrimSuffix(want, "\n"), "\n")
	slices.Reverse(l[1:])
	holdText(t, m, strings.Join(l, "\n")+"\n")
}

// P8.2: a module of an instruction of every form, and modules made by chance.
func TestTextEveryForm(t *testing.T) {
	all := module(math.MaxUint32, sampleBound, samples()...)
	holdText(t, all, saidText(all))
	d := dice(82)
	for range 3000 {
		m := d.module(12)
		holdText(t, m, saidText(m))
		if t.Failed() {
			t.FailNow()
		}
	}
}

// P8.2: bounds that are none, ahead of what is wrong with instructions; and those near them.
func TestTextBounds(t *testing.T) {
	for _, bound := range []uint32{0, api.MaxBound + 1, api.MaxBound + 2, 1 << 20, 1 << 31, math.MaxUint32} {
		holdRefused(t, module(7, bound), spot(api.ErrBound, 0))
		holdRefused(t, module(7, bound, inst(253, 0, 0)), spot(api.ErrBound, 0))
		holdRefused(t, module(7, bound, inst(22, 0, 0)), spot(api.ErrBound, 0))
	}
	for _, bound := range []uint32{1, 2, 65535, api.MaxBound} {
		m := module(7, bound, inst(253, 0, 0))
		holdText(t, m, saidText(m))
		holdRefused(t, module(7, bound, inst(249, 0, 0, anId(bound))), spot(api.ErrId, 0))
	}
}

// faulty are instructions with a fault, by the bound 9, one of each error.
func faulty() map[api.Errno]api.Inst {
	return map[api.Errno]api.Inst{
		api.ErrOp:      inst(22, 0, 0),
		api.ErrType:    inst(128, 0, 2, anId(3), anId(4)),
		api.ErrResult:  inst(253, 0, 1),
		api.ErrId:      inst(249, 0, 0, anId(9)),
		api.ErrOperand: inst(245, 1, 2, anId(3)),
		api.ErrEnum:    inst(17, 0, 0, anEnum(2)),
		api.ErrNul:     inst(7, 0, 1, aText("a\x00b")),
		api.ErrCount:   inst(30, 0, 1, slices.Repeat([]api.Arg{anId(1)}, api.MaxCount-1)...),
	}
}

// P8.2: an instruction with a fault, at its place; of several the first.
func TestTextRefuses(t *testing.T) {
	right := []api.Inst{inst(253, 0, 0), inst(248, 0, 8), inst(128, 1, 2, anId(3), anId(4))}
	for e, i := range faulty() {
		for ahead := range len(right) + 1 {
			l := append(slices.Clone(right[:ahead]), i)
			holdRefused(t, module(7, 9, l...), spot(e, ahead))
			holdRefused(t, module(7, 9, append(l, right...)...), spot(e, ahead))
			for _, other := range faulty() {
				holdRefused(t, module(7, 9, append(slices.Clone(l), other)...), spot(e, ahead))
			}
		}
	}
}

// fullModule is a module of so many words of the bound 2: of great instructions, each a text of this byte, and of small ones behind them.
func fullModule(words int, of string) api.Module {
	m := module(math.MaxUint32, 2)
	great := inst(7, 0, 1, aText(strings.Repeat(of, 4*(api.MaxCount-2)-1)))
	left := words - 5
	for left >= api.MaxCount {
		m.Insts = append(m.Insts, great)
		left -= api.MaxCount
	}
	for range left {
		m.Insts = append(m.Insts, inst(253, 0, 0))
	}
	return m
}

// P8.2, P8.3: modules of just MaxWords words, and of more; their texts have at most MaxText bytes.
func TestTextFull(t *testing.T) {
	for _, of := range []string{"a", "\xff"} {
		m := fullModule(api.MaxWords, of)
		s, e := Text(m)
		if e != (api.Spot{}) || len(s) > api.MaxText || strings.Count(s, "\n") != 1+len(m.Insts) {
			t.Fatalf("%d bytes, %v", len(s), e)
		}
		holdText(t, m, s)
		holdBack(t, m)
		holdRefused(t, fullModule(api.MaxWords+1, of), spot(api.ErrLarge, len(m.Insts)))
		m.Insts = append(m.Insts, inst(253, 0, 0), inst(22, 0, 0))
		holdRefused(t, m, spot(api.ErrLarge, len(m.Insts)-2))
		m.Insts[len(m.Insts)-2] = inst(22, 0, 0)
		holdRefused(t, m, spot(api.ErrOp, len(m.Insts)-2))
	}
}

// P8.3: the longest lines for their words, one operation beside the other: no text of MaxWords words has more than MaxText bytes.
func TestTextLongest(t *testing.T) {
	most := 0
	for _, i := range samples() {
		i = longest(i)
		line, e := Line(i, api.MaxBound)
		raw, _ := code.Raw(i, api.MaxBound)
		if e != api.OK || 1+len(line) > 16*(1+len(raw.Words)) {
			t.Errorf("%d bytes of %d words, %d", len(line), 1+len(raw.Words), e)
		}
		most = max(most, 1+len(line))
	}
	if most < 32 {
		t.Errorf("the longest has %d bytes", most)
	}
	i := inst(82, 65535, 65535, append([]api.Arg{anId(65535), anId(65535)}, slices.Repeat([]api.Arg{aNumber(math.MaxUint32)}, 995)...)...)
	m := module(math.MaxUint32, api.MaxBound, slices.Repeat([]api.Inst{i}, (api.MaxWords-5)/1000)...)
	if s, e := Text(m); e != (api.Spot{}) || len(s) > api.MaxText || len(s) < api.MaxText/2 {
		t.Errorf("%d bytes, %v", len(s), e)
	}
}

// longest is an instruction with ids, numbers and texts that are as long as can be.
func longest(i api.Inst) api.Inst {
	i = copied(i)
	if i.Type != 0 {
		i.Type = 65535
	}
	if i.Result != 0 {
		i.Result = 65535
	}
	for at, a := range i.Args {
		switch a.Kind {
		case api.ArgId:
			i.Args[at].N = 65535
		case api.ArgNumber:
			i.Args[at].N = math.MaxUint32
		case api.ArgText:
			i.Args[at].S = "\xff\xff\xff"
		}
	}
	return i
}

// head are a head's words, by a bound.
func head(bound uint32) []uint32 { return []uint32{0x07230203, 0x00010000, 7, bound, 0} }

// P8.2: each Spot of code.Decode, told as it is, by the place of a word.
func TestBytesRefuses(t *testing.T) {
	with := func(at int, w uint32) []byte {
		l := head(9)
		l[at] = w
		return bytesOf(l...)
	}
	for _, c := range []struct {
		b []byte
		s api.Spot
	}{
		{nil, spot(api.ErrEnd, 0)},
		{[]byte{3}, spot(api.ErrLength, 0)},
		{bytesOf(head(9)...)[:19], spot(api.ErrLength, 0)},
		{bytesOf(head(9)[:4]...), spot(api.ErrEnd, 4)},
		{with(0, 0x07230204), spot(api.ErrMagic, 0)},
		{with(0, 0x03022307), spot(api.ErrSwapped, 0)},
		{with(1, 0x00010100), spot(api.ErrVersion, 1)},
		{with(3, 0), spot(api.ErrBound, 3)},
		{with(3, api.MaxBound+1), spot(api.ErrBound, 3)},
		{with(4, 1), spot(api.ErrSchema, 4)},
	} {
		holdBytesRefused(t, c.b, c.s)
	}
	front := append(head(9), 1<<16|253, 2<<16|248, 8)
	for e, words := range map[api.Errno][]uint32{
		api.ErrCount:   {5<<16 | 128, 1, 2, 3},
		api.ErrOp:      {1<<16 | 22},
		api.ErrType:    {1<<16 | 128},
		api.ErrResult:  {2<<16 | 128, 1},
		api.ErrOperand: {4<<16 | 128, 1, 2, 3},
		api.ErrId:      {2<<16 | 249, 9},
		api.ErrEnum:    {2<<16 | 17, 2},
		api.ErrText:    {3<<16 | 5, 3, 0x6e69616d},
		api.ErrPad:     {3<<16 | 5, 3, 0x61006161},
	} {
		holdBytesRefused(t, bytesOf(append(head(9), words...)...), spot(e, 5))
		holdBytesRefused(t, bytesOf(append(slices.Clone(front), words...)...), spot(e, 8))
	}
	holdBytesRefused(t, bytesOf(append(slices.Clone(front), 0, 0)...), spot(api.ErrCount, 8))
}

// P8.2: a module of more than MaxWords words.
func TestBytesLarge(t *testing.T) {
	l := append(head(9), slices.Repeat([]uint32{1<<16 | 253}, api.MaxWords-5)...)
	b := bytesOf(l...)
	want := "module 7 9\n" + strings.Repeat("OpReturn\n", api.MaxWords-5)
	if s, e := Bytes(b); s != want || e != (api.Spot{}) {
		t.Errorf("%d bytes, %v", len(s), e)
	}
	b = append(b, 253, 0, 1, 0)
	holdBytesRefused(t, b, spot(api.ErrLarge, 0))
}

// P8.2: bytes of modules with bytes changed, taken out or put in: code.Decode's Spot and nothing beside it, or the text of its module.
func TestBytesByChance(t *testing.T) {
	d := dice(83)
	right, wrong := 0, 0
	for range 20000 {
		b, _ := code.Encode(d.module(5))
		for range d.below(3) {
			at := d.below(len(b))
			switch d.below(6) {
			case 0:
				b = slices.Insert(b, at, byte(d.below(256)))
			case 1:
				b = b[:at/4*4]
			case 2:
				b[at] = byte(d.below(256))
			default:
				b[at/4*4] ^= byte(d.below(8))
			}
			if len(b) == 0 {
				break
			}
		}
		m, fault := code.Decode(b)
		if fault.Err != api.OK {
			wrong++
			holdBytesRefused(t, b, fault)
		} else {
			right++
			holdText(t, m, saidText(m))
		}
		if t.Failed() {
			t.FailNow()
		}
	}
	if right < 3000 || wrong < 3000 {
		t.Errorf("%d are right, %d wrong", right, wrong)
	}
}
