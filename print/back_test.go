package print

import (
	"math"
	"slices"
	"strconv"
	"strings"
	"testing"

	"intaglio/api"
	"intaglio/asm"
	"intaglio/code"
	"intaglio/lex"
)

// holdBack says whether a module's text is read as it, and written as it was.
func holdBack(t *testing.T, m api.Module) {
	t.Helper()
	s, e := Text(m)
	if e != (api.Spot{}) || s == "" {
		t.Fatalf("Text: %v", e)
	}
	again, e := asm.Parse(s)
	if e != (api.Spot{}) || !code.Same(again, m) {
		t.Fatalf("asm.Parse of %s: %v", brief(s), e)
	}
	if twice, e := Text(again); e != (api.Spot{}) || twice != s {
		t.Fatalf("Text of what is read: %s, %v; not %s", brief(twice), e, brief(s))
	}
}

// P2, P8.3: what is written is read as the same: an instruction of every form alone, all of them together, modules at the edges.
func TestReadBack(t *testing.T) {
	all := samples()
	for _, i := range all {
		holdBack(t, module(7, sampleBound, i))
		holdBack(t, module(7, api.MaxBound, longest(i)))
	}
	holdBack(t, module(7, sampleBound, all...))
	holdBack(t, module(0, 1))
	holdBack(t, module(math.MaxUint32, api.MaxBound))
	holdBack(t, module(0, 2, inst(1, 1, 1), inst(30, 0, 1), inst(245, 1, 1)))
	holdBack(t, module(0, 2, inst(30, 0, 1, slices.Repeat([]api.Arg{anId(1)}, api.MaxCount-2)...)))
	holdBack(t, module(0, 2, inst(7, 0, 1, aText(strings.Repeat("\xff", 4*(api.MaxCount-2)-1)))))
	for c := 1; c < 256; c++ {
		holdBack(t, module(0, 2, inst(7, 0, 1, aText(string([]byte{byte(c)}))), inst(5, 0, 0, anId(1), aText(string([]byte{byte(c), 'f', byte(c), '0'})))))
	}
	for _, n := range []uint32{0, 1, 9, 10, 1<<31 - 1, 1 << 31, 1<<31 + 1, math.MaxUint32} {
		holdBack(t, module(n, 2, inst(43, 1, 1, aNumber(n)), inst(251, 0, 0, anId(1), anId(1), aNumber(n), anId(1))))
	}
}

// P2, P8.3: the same of modules made by chance.
func TestReadBackByChance(t *testing.T) {
	d := dice(84)
	for range 5000 {
		holdBack(t, d.module(12))
	}
}

// loose is a line with other blanks, numbers said otherwise, and a note behind it, that says the same.
func (d *dice) loose(line string) string {
	l, s := lex.Tokens(line)
	if s.Err != api.OK {
		panic("no line")
	}
	var b strings.Builder
	for _, t := range l {
		b.WriteString(d.of(" ", "\t", "\r ", "  "))
		switch n, _ := lex.Number(t.Text); {
		case t.Kind == api.TokNumber && n == math.MaxUint32:
			t.Text = d.of("-1", "0xffffffff", "0xFFFFFFFF", t.Text)
		case t.Kind == api.TokNumber && n == 0:
			t.Text = d.of("0x0", "0x00", "0x00000000", "0")
		}
		one, _ := lex.Write([]api.Token{t})
		if t.Kind == api.TokString {
			one = d.looseQuote(t.Text)
		}
		b.WriteString(one)
	}
	return b.String() + d.of("", " ", ";", "; note", "\t;%x \"=\xff")
}

// looseQuote is a quoted text of which some bytes are written otherwise than they must be.
func (d *dice) looseQuote(s string) string {
	q := `"`
	for at := range len(s) {
		plain := saidQuote(s[at : at+1])
		code := strconv.FormatInt(256+int64(s[at]), 16)[1:]
		q += d.of(plain[1:len(plain)-1], `\x`+code, `\x`+strings.ToUpper(code))
	}
	return q + `"`
}

// looseText is a text that says the same as this one, with notes, blanks and idle lines.
func (d *dice) looseText(s string) string {
	var l []string
	for _, line := range lex.Lines(s) {
		for range d.below(3) {
			l = append(l, d.of("", " ", "\t\r ", ";", "; note", " ;module 0 0", ";\x00\xff\""))
		}
		l = append(l, d.loose(line))
	}
	return strings.Join(l, "\n") + d.of("", "\n", "\n\n", "\n;")
}

// P2, P8.3: texts with notes, blanks and idle lines: what is read of them has the one form, which stays as it is when it is read and written again.
func TestOneForm(t *testing.T) {
	hold := func(loose, want string) {
		t.Helper()
		m, e := asm.Parse(loose)
		if e != (api.Spot{}) {
			t.Fatalf("asm.Parse of %s: %v", brief(loose), e)
		}
		s, e := Text(m)
		if e != (api.Spot{}) || s != want {
			t.Fatalf("%s: %s, %v; not %s", brief(loose), brief(s), e, brief(want))
		}
		holdBack(t, m)
	}
	hold("module 0 1", "module 0 1\n")
	hold(";\n\n module\t-1 0x10000;x\n\n", "module 4294967295 65536\n")
	hold("module 0 5\r\n%1=OpTypeBool\r\nOpName%1\"\\x61\\x0A\\x0a\"", "module 0 5\n%1 = OpTypeBool\nOpName %1 \"a\\x0a\\x0a\"\n")
	hold("module 0x7 0x5\n%1 = OpConstant %2 -2147483648 ; least\n%1 = OpConstant %2 0x0000000A", "module 7 5\n%1 = OpConstant %2 2147483648\n%1 = OpConstant %2 10\n")
	d := dice(85)
	for range 3000 {
		m := d.module(8)
		want := saidText(m)
		hold(d.looseText(want), want)
	}
	all := saidText(module(7, sampleBound, samples()...))
	for range 5 {
		hold(d.looseText(all), all)
	}
}

// P8.3: unlike modules of good shape have unlike texts: each field of a module and of its instructions tells.
func TestUnlikeTexts(t *testing.T) {
	seen := map[string]api.Module{}
	add := func(m api.Module) {
		t.Helper()
		s, e := Text(m)
		if e.Err != api.OK {
			return
		}
		if other, is := seen[s]; is && !code.Same(other, m) {
			t.Fatalf("%s is the text of two modules", brief(s))
		}
		seen[s] = m
	}
	texts := []string{"", "a", "b", "ab", "\n", `\n`, `\x0a`, `"`, `\"`, `" "`, "1", "%1", " ", "é", "\xc3", "a b"}
	for generator := range uint32(3) {
		for bound := range uint32(4) {
			add(module(generator, bound))
			for a := range uint32(4) {
				add(module(generator, bound, inst(249, 0, 0, anId(a))))
				for b := range uint32(4) {
					add(module(generator, bound, inst(1, a, b)))
					add(module(generator, bound, inst(21, 0, a, aNumber(b), aNumber(1)), inst(21, 0, a, aNumber(1), aNumber(b))))
					add(module(generator, bound, inst(245, a, b, anId(1), anId(1))))
				}
			}
		}
	}
	for _, a := range texts {
		add(module(0, 3, inst(7, 0, 1, aText(a))))
		for _, b := range texts {
			add(module(0, 3, inst(7, 0, 1, aText(a)), inst(7, 0, 1, aText(b))))
			add(module(0, 3, inst(7, 0, 1, aText(a+b))))
		}
	}
	for _, i := range samples() {
		add(module(0, sampleBound, i))
		add(module(0, sampleBound, i, i))
	}
	d := dice(86)
	for range 20000 {
		add(module(uint32(d.below(2)), sampleBound, d.spoiled(d.inst(sampleBound))))
	}
	if len(seen) < 5000 {
		t.Errorf("%d texts", len(seen))
	}
}

// holdLines says whether a module's text has one line more than it has instructions, and whether each is Line of its instruction.
func holdLines(t *testing.T, m api.Module) {
	t.Helper()
	s, _ := Text(m)
	if !strings.HasSuffix(s, "\n") || strings.Count(s, "\n") != len(m.Insts)+1 {
		t.Fatalf("%d lines of %d instructions", strings.Count(s, "\n"), len(m.Insts))
	}
	for n, line := range lex.Lines(s) {
		if n == 1 {
			if h, e := asm.Head(line); e != (api.Spot{}) || h != (api.Head{Generator: m.Generator, Bound: m.Bound}) {
				t.Fatalf("the head %q: %v, %v", line, h, e)
			}
			continue
		}
		if one, e := Line(m.Insts[n-2], m.Bound); e != api.OK || one != line {
			t.Fatalf("the line %d: %s; not %s, %d", n, brief(line), brief(one), e)
		}
	}
}

// P8.4: the lines of a text.
func TestLinesOfText(t *testing.T) {
	holdLines(t, module(0, 1))
	holdLines(t, module(math.MaxUint32, api.MaxBound, inst(253, 0, 0)))
	holdLines(t, module(7, sampleBound, samples()...))
	holdLines(t, module(7, 2, inst(7, 0, 1, aText("a\nb\n\r\n")), inst(7, 0, 1, aText("")), inst(5, 0, 0, anId(1), aText("\n\n"))))
	holdLines(t, fullModule(api.MaxWords, "\n"))
	d := dice(87)
	for range 3000 {
		holdLines(t, d.module(12))
	}
}
