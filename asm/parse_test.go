package asm

import (
	"slices"
	"strconv"
	"strings"
	"testing"

	"intaglio/api"
	"intaglio/code"
	"intaglio/lex"
)

// holdModule says whether Parse is that module, and whether that is of good shape.
func holdModule(t *testing.T, all string, want api.Module) {
	t.Helper()
	m, s := Parse(all)
	if s != (api.Spot{}) || !alikeModules(m, want) {
		t.Errorf("Parse(%s): %d instructions, %v; not %d", brief(all), len(m.Insts), s, len(want.Insts))
	}
	if s := code.Shape(m); s != (api.Spot{}) {
		t.Errorf("Parse(%s): a module that is not of good shape: %v", brief(all), s)
	}
}

// P7.3: the chapter's examples, and those of the document's first page.
func TestParseExamples(t *testing.T) {
	holdRefused(t, "", spot(api.ErrEarly, 0))
	holdModule(t, lines(";", "module 0 5", "", "OpReturn"), api.Module{Bound: 5, Insts: []api.Inst{inst(253, 0, 0)}})
	holdRefused(t, "OpReturn", spot(api.ErrLine, 1))
	holdRefused(t, lines("module 0 5", "module 0 5"), spot(api.ErrName, 2))
	holdModule(t, lines("module 9 5", "%1 = OpTypeBool"), api.Module{Generator: 9, Bound: 5, Insts: []api.Inst{inst(20, 0, 1)}})
	holdRefused(t, lines("module 0 5", "%9 = OpLabel"), spot(api.ErrId, 2))
	holdModule(t, "module 0 2\x0aOpMemoryModel Logical Simple\x0a%1 = OpTypeBool", api.Module{Bound: 2, Insts: []api.Inst{inst(14, 0, 0, enum(0), enum(0)), inst(20, 0, 1)}})
}

// P1, P7.3: the bytes of the module that the document's first example reads.
func TestParseBytes(t *testing.T) {
	m, _ := Parse(lines("module 9 5", "%1 = OpTypeBool"))
	b, s := code.Encode(m)
	want := []byte{3, 2, 0x23, 7, 0, 0, 1, 0, 9, 0, 0, 0, 5, 0, 0, 0, 0, 0, 0, 0, 0x14, 0, 2, 0, 1, 0, 0, 0}
	if s != (api.Spot{}) || !slices.Equal(b, want) {
		t.Errorf("%x, %v", b, s)
	}
}

// P7.3: modules without an instruction, and by the least and the greatest bound.
func TestParseHeadAlone(t *testing.T) {
	for all, want := range map[string]api.Module{
		"module 0 1":                  {Bound: 1},
		"module 0 65536\n":            {Bound: api.MaxBound},
		"\n;\n \t\nmodule 7 2\n\n;\n": {Generator: 7, Bound: 2},
		"module -1 0x2 ; so":          {Generator: 4294967295, Bound: 2},
		"module 0 1\r\nOpReturn\r\n":  {Bound: 1, Insts: []api.Inst{inst(253, 0, 0)}},
		"module 0 2\nOpBranch %1":     {Bound: 2, Insts: []api.Inst{inst(249, 0, 0, id(1))}},
		"module 0 65536\nOpBranch %65535\n%1 = OpUndef %65535": {Bound: api.MaxBound, Insts: []api.Inst{inst(249, 0, 0, id(65535)), inst(1, 65535, 1)}},
	} {
		holdModule(t, all, want)
	}
	holdRefused(t, lines("module 0 1", "%1 = OpLabel"), spot(api.ErrId, 2))
	holdRefused(t, lines("module 0 1", "OpBranch %0"), spot(api.ErrId, 2))
	holdRefused(t, lines("module 0 65536", "OpBranch %65536"), spot(api.ErrId, 2))
}

// P7.3: a text of a line of every form, with idle lines and notes between.
func TestParseEveryForm(t *testing.T) {
	all := samples()
	want := moduleOf(4294967295, sampleBound, all)
	holdModule(t, moduleText(4294967295, sampleBound, all), want)
	holdModule(t, strings.TrimSuffix(moduleText(4294967295, sampleBound, all), "\n"), want)
	d := dice(74)
	for range 5 {
		l := []string{d.idle(), " module\t0xffffffff 20 ; the head", d.idle()}
		for _, s := range all {
			l = append(l, d.loose(s.tokens))
			for range d.below(3) {
				l = append(l, d.idle())
			}
		}
		holdModule(t, lines(l...), want)
	}
}

// P7.3: a text without bytes, and texts of idle lines alone.
func TestParseEarly(t *testing.T) {
	for all, at := range map[string]int{
		"": 0, "\n": 1, " ": 1, ";": 1, "; module 0 5": 1, "\n\n": 2, "\n;\n": 2, ";\n ": 2, ";\n \n": 2, "\r\n\t\n;;\n": 3, "\n\n\n;module": 4,
		strings.Repeat("\n", 1000): 1000, strings.Repeat(";\n", 1000) + " ": 1001,
	} {
		holdRefused(t, all, spot(api.ErrEarly, at))
	}
}

// P7.3: a fault in the head's line, told with the line's number, wherever that stands.
func TestParseHeadFaults(t *testing.T) {
	for line, e := range map[string]api.Errno{
		".": api.ErrSign, "module 007 5": api.ErrNumber, `"`: api.ErrString,
		"Module 0 5": api.ErrLine, "module %0 5": api.ErrLine, "module 0 5 5": api.ErrLine, "OpReturn": api.ErrLine, "%1 = OpLabel": api.ErrLine, "7": api.ErrLine, "=": api.ErrLine,
		"module 0 0": api.ErrBound, "module 0 65537": api.ErrBound, "module 0 -1": api.ErrBound,
		"module": api.ErrEarly, "module 0": api.ErrEarly, "module 0 ;5": api.ErrEarly,
	} {
		for ahead := range 4 {
			front := strings.Repeat(";\n", ahead)
			holdRefused(t, front+line, spot(e, ahead+1))
			holdRefused(t, front+line+"\nmodule 0 5\nOpReturn\n", spot(e, ahead+1))
			holdRefused(t, front+line+"\n.\n", spot(e, ahead+1))
		}
	}
}

// faultyLines are lines with a fault, by the bound 5.
func faultyLines() map[string]api.Errno {
	return map[string]api.Errno{
		".": api.ErrSign, "OpReturn \x80": api.ErrSign, "OpBranch %x": api.ErrNumber, `OpName %1 "a`: api.ErrString,
		"7": api.ErrLine, "%3 OpLabel": api.ErrLine, "OpReturn 7": api.ErrLine, "OpStore %1 7": api.ErrLine,
		"module 0 5": api.ErrName, "OpStor": api.ErrName, "OpDecorate %1 flat": api.ErrName,
		"OpLabel": api.ErrResult, "%3 = OpReturn": api.ErrResult, "%5 = OpLabel": api.ErrId, "OpBranch %0": api.ErrId,
		`OpName %1 "\x00"`: api.ErrNul, "%3": api.ErrEarly, "%3 = OpPhi %1 %2": api.ErrEarly, "OpStore %1": api.ErrEarly,
		"%1 = OpTypeStruct" + strings.Repeat(" %1", api.MaxCount-1): api.ErrCount,
	}
}

// P7.3, P7.4: a fault in each further line, told with the line's number; what stands behind it changes nothing.
func TestParseLineFaults(t *testing.T) {
	right := []string{"%1 = OpLabel", "", "OpReturn ; a", ";", "OpStore %1 %2"}
	for line, e := range faultyLines() {
		for ahead := range len(right) + 1 {
			l := append([]string{"", "module 0 5"}, right[:ahead]...)
			l = append(l, line)
			want := spot(e, len(l))
			holdRefused(t, lines(l...), want)
			holdRefused(t, lines(l...)+"\n", want)
			for _, behind := range []string{"OpReturn", "OpStor", ".", "%9 = OpLabel", "module 0 0", ""} {
				holdRefused(t, lines(append(l, behind)...), want)
			}
		}
	}
}

// fullText is a text of a module of so many words of the bound 2, MaxWords - 20 at the least: of great instructions, and of small ones behind them.
func fullText(words int) string {
	var b strings.Builder
	b.WriteString("module 0 2\n")
	left := words - 5
	great := "%1 = OpString " + lex.Quote(strings.Repeat("a", 4*(api.MaxCount-2)-1)) + "\n"
	for left >= api.MaxCount {
		b.WriteString(great)
		left -= api.MaxCount
	}
	b.WriteString(strings.Repeat("OpReturn\n", left))
	return b.String()
}

// P7.3: modules of just MaxWords words, and of more; with which line they have too many.
func TestParseWords(t *testing.T) {
	full := fullText(api.MaxWords)
	m, s := Parse(full)
	if b, e := code.Encode(m); s != (api.Spot{}) || e != (api.Spot{}) || len(b) != 4*api.MaxWords {
		t.Fatalf("%d bytes, %v, %v", len(b), s, e)
	}
	holdModule(t, full+";\n\n ", m)
	at := strings.Count(full, "\n") + 1
	for more, e := range map[string]api.Errno{
		"OpReturn":                api.ErrLarge,
		"OpReturn\nOpReturn":      api.ErrLarge,
		"OpKill ; a":              api.ErrLarge,
		"%1 = OpLabel\n.":         api.ErrLarge,
		"OpStore %1 %1\nOpReturn": api.ErrLarge,
		// What is wrong with the line itself goes ahead.
		"OpReturn 7":   api.ErrLine,
		".":            api.ErrSign,
		"%2 = OpLabel": api.ErrId,
		"%1 = OpTypeStruct" + strings.Repeat(" %1", api.MaxCount-1): api.ErrCount,
	} {
		holdRefused(t, full+more, spot(e, at))
		holdRefused(t, full+"\n;\n"+more, spot(e, at+2))
	}
	// A line of several words, of which not all have room.
	for lack := range 3 {
		front := fullText(api.MaxWords - lack)
		at := strings.Count(front, "\n") + 1
		if m, s := Parse(front); s != (api.Spot{}) || len(m.Insts) != at-2 {
			t.Errorf("%d words less: %d instructions, %v", lack, len(m.Insts), s)
		}
		holdRefused(t, front+"OpStore %1 %1", spot(api.ErrLarge, at))
		holdRefused(t, front+`OpName %1 ""`, spot(api.ErrLarge, at))
	}
	if _, s := Parse(fullText(api.MaxWords-3) + "OpStore %1 %1"); s != (api.Spot{}) {
		t.Errorf("three words that have room: %v", s)
	}
}

// P7.3: as many instructions of one word as have room, and one more.
func TestParseManyLines(t *testing.T) {
	all := "module 0 1\n" + strings.Repeat("OpKill\n", api.MaxWords-5)
	if m, s := Parse(all); s != (api.Spot{}) || len(m.Insts) != api.MaxWords-5 {
		t.Errorf("%d instructions, %v", len(m.Insts), s)
	}
	holdRefused(t, all+"OpKill\n", spot(api.ErrLarge, api.MaxWords-3))
}

// P7.3: texts of just MaxText bytes, and of one more, whatever they are.
func TestParseText(t *testing.T) {
	fill := func(front, of string) string { return front + strings.Repeat(of, api.MaxText-len(front)) }
	want := api.Module{Bound: 5, Insts: []api.Inst{inst(253, 0, 0)}}
	for _, all := range []string{
		fill("module 0 5\nOpReturn\n;", "a"),
		fill("module 0 5\nOpReturn ;", "\x00"),
		fill("module 0 5\nOpReturn", " "),
		fill("module 0 5\nOpReturn", "\n"),
	} {
		if len(all) != api.MaxText {
			t.Fatalf("%d bytes", len(all))
		}
		holdModule(t, all, want)
		holdRefused(t, all+"\n", spot(api.ErrLarge, 0))
	}
	holdRefused(t, fill("", "\n"), spot(api.ErrEarly, api.MaxText))
	holdRefused(t, fill("", ";"), spot(api.ErrEarly, 1))
	holdRefused(t, fill("", "."), spot(api.ErrSign, 1))
	for _, c := range []string{"\n", ";", ".", " ", "a"} {
		holdRefused(t, fill("", c)+c, spot(api.ErrLarge, 0))
	}
}

// saidParse is what the chapter says of a text, line by line, by Head and Line, which other tests hold. Texts and modules that are too large are none of its business.
func saidParse(all string) (api.Module, api.Spot) {
	var m api.Module
	l := strings.Split(all, "\n")
	if l[len(l)-1] == "" {
		l = l[:len(l)-1]
	}
	headed := false
	for n, line := range l {
		if tokens, s := lex.Tokens(line); s.Err == api.OK && len(tokens) == 0 {
			continue
		}
		var s api.Spot
		if headed {
			var i api.Inst
			i, _, s = Line(line, m.Bound)
			m.Insts = append(m.Insts, i)
		} else {
			var h api.Head
			h, s = Head(line)
			m.Generator, m.Bound = h.Generator, h.Bound
		}
		if s.Err != api.OK {
			return api.Module{}, spot(s.Err, n+1)
		}
		headed = true
	}
	if !headed {
		return api.Module{}, spot(api.ErrEarly, len(l))
	}
	return m, api.Spot{}
}

// chanceText is a text of lines that are right, mostly.
func (d *dice) chanceText(all []sample) []string {
	l := []string{"module " + strconv.Itoa(d.below(9)) + " 20"}
	for range d.below(6) {
		l = append(l, d.loose(all[d.below(len(all))].tokens))
	}
	for at := range l {
		switch d.below(30) {
		case 0:
			l[at] = d.of(".", "OpStor", "module 0 20", "%20 = OpLabel", "OpReturn 7", "%1 =", `OpName %1 "\x00"`)
		case 1:
			l[at] = d.bytes(9)
		case 2, 3, 4:
			l[at] = d.idle()
		}
	}
	return l
}

// P7.3, P7.4: texts made by chance, held against the chapter's words; what is parsed is of good shape, and idle lines put in anywhere change nothing but the numbers of lines.
func TestParseByChance(t *testing.T) {
	d := dice(75)
	all := samples()
	right, wrong := 0, 0
	for range 20000 {
		l := d.chanceText(all)
		whole := lines(l...) + d.of("", "\n")
		want, fault := saidParse(whole)
		m, s := Parse(whole)
		if s != fault || !alikeModules(m, want) {
			t.Fatalf("%q: %v, %v; not %v, %v", whole, m, s, want, fault)
		}
		if s.Err == api.OK {
			right++
			if s := code.Shape(m); s != (api.Spot{}) {
				t.Fatalf("%q: not of good shape: %v", whole, s)
			}
			continue
		}
		wrong++
		if idleAll(strings.Split(whole, "\n")) {
			continue // a line more is a line behind no fault
		}
		behind := whole + "\n" + d.bytes(9)
		if again, s := Parse(behind); s != fault || !alikeModules(again, m) {
			t.Fatalf("%q: %v, not %v", behind, s, fault)
		}
	}
	if right < 5000 || wrong < 5000 {
		t.Errorf("%d are right, %d wrong", right, wrong)
	}
}

// P7.4: idle lines put in at each place of a text, right or not.
func TestParseIdleLines(t *testing.T) {
	d := dice(76)
	all := samples()
	for range 2000 {
		// Some of them have a byte 10 within.
		l := strings.Split(lines(d.chanceText(all)...), "\n")
		m, s := Parse(lines(l...) + "\n")
		for at := range len(l) + 1 {
			for many := range 3 {
				more := slices.Clone(l)
				for range many {
					more = slices.Insert(more, at, d.idle())
				}
				want := s
				if s.At > at || idleAll(l) {
					want.At += many
				}
				if again, e := Parse(lines(more...) + "\n"); e != want || !alikeModules(again, m) {
					t.Fatalf("%q, %d idle lines at %d: %v, not %v", l, many, at, e, want)
				}
			}
		}
	}
}

// idleAll says whether all lines are idle.
func idleAll(l []string) bool {
	for _, line := range l {
		if tokens, s := lex.Tokens(line); s.Err != api.OK || len(tokens) > 0 {
			return false
		}
	}
	return true
}

// P2, P7.4: modules written token by token, and parsed, are the same, and have the same bytes.
func TestParseWritten(t *testing.T) {
	d := dice(77)
	all := samples()
	for range 300 {
		var l []sample
		for range d.below(40) {
			l = append(l, all[d.below(len(all))])
		}
		generator := uint32(d.below(1 << 31))
		want := moduleOf(generator, sampleBound, l)
		m, s := Parse(moduleText(generator, sampleBound, l))
		if s != (api.Spot{}) || !code.Same(m, want) {
			t.Fatalf("%v, %v; not %v", m, s, want)
		}
		b, _ := code.Encode(m)
		if again, s := code.Decode(b); s != (api.Spot{}) || !code.Same(again, want) {
			t.Fatalf("decoded: %v, %v; not %v", again, s, want)
		}
	}
}
