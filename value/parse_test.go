package value

import (
	"math"
	"slices"
	"strings"
	"testing"

	"intaglio/api"
)

// P12.4: the chapter's examples.
func TestParseExamples(t *testing.T) {
	x := table(t)
	holdParse(t, x, aStruct, "{ true,{1 ,-2}}", 1, 1, 4294967294)
	holdNoForm(t, x, aStruct, "{true, {1}}", 9)
	holdNoForm(t, x, aStruct, "{true, {1, 2}", 13)
	holdNoForm(t, x, aStruct, "{1", 1)
	holdNoForm(t, x, anUint, "-1", 0)
	holdNoForm(t, x, anUint, "007", 0)
	holdNoForm(t, x, anUint, "4294967296", 0)
	holdNoForm(t, x, aBool, "truex", 4)
	holdNoForm(t, x, anInt, "2147483648", 0)
	holdNoForm(t, x, anInt, " ", 1)
}

// P12.4: a truth is these very bytes: the first other one is told.
func TestParseTruth(t *testing.T) {
	x := table(t)
	holdParse(t, x, aBool, "true", 1)
	holdParse(t, x, aBool, "false", 0)
	holdParse(t, x, aBool, "  true   ", 1)
	for s, at := range map[string]int{
		"": 0, " ": 1, "   ": 3, "t": 1, "tr": 2, "tru": 3, "f": 1, "fa": 2, "fal": 3, "fals": 4, "  tru": 5, " fals": 5,
		"rue": 0, "tue": 1, "tre": 2, "tru ": 3, "alse": 0, "flse": 1, "fase": 2, "fale": 3, "fals ": 4,
		"truee": 4, "falsee": 5, "ttrue": 1, "ffalse": 1, "tfalse": 1, "ftrue": 1, "True": 0, "tRue": 1, "TRUE": 0, "falsE": 4, "t rue": 1, "tr ue": 2, "fal se": 3,
		"0": 0, "1": 0, "-1": 0, "{true}": 0, "{": 0, "}": 0, ",": 0, "true,": 4, "true}": 4, "true true": 5, "true false": 5, "truefalse": 4, " true  x": 7,
		"\ttrue": 0, "true\t": 4, "true\n": 4, "\ntrue": 0, "tru\x00": 3, "\x00": 0, "true\x00": 4, "trué": 3, "\u00a0true": 0, "true\xff": 4,
	} {
		holdNoForm(t, x, aBool, s, at)
	}
}

// P12.4: numbers at the edges, and one beyond each.
func TestParseNumber(t *testing.T) {
	x := table(t)
	for _, c := range []struct {
		s             string
		word          uint32
		isUint, isInt bool
	}{
		{"0", 0, true, true}, {"1", 1, true, true}, {"9", 9, true, true}, {"10", 10, true, true}, {"100", 100, true, true}, {"2147483646", 1<<31 - 2, true, true},
		{"2147483647", 1<<31 - 1, true, true}, {"2147483648", 1 << 31, true, false}, {"4294967294", math.MaxUint32 - 1, true, false}, {"4294967295", math.MaxUint32, true, false},
		{"4294967296", 0, false, false}, {"4294967297", 0, false, false}, {"9999999999", 0, false, false}, {"42949672950", 0, false, false}, {"8589934592", 0, false, false},
		{"9223372036854775807", 0, false, false}, {"9223372036854775808", 0, false, false}, {"18446744073709551615", 0, false, false}, {"18446744073709551616", 0, false, false}, {"18446744073709551617", 0, false, false},
		{"340282366920938463463374607431768211457", 0, false, false}, {"1" + strings.Repeat("0", 5000), 0, false, false},
		{"-1", math.MaxUint32, false, true}, {"-10", math.MaxUint32 - 9, false, true}, {"-2147483647", 1<<31 + 1, false, true}, {"-2147483648", 1 << 31, false, true},
		{"-2147483649", 0, false, false}, {"-4294967295", 0, false, false}, {"-4294967296", 0, false, false}, {"-4294967297", 0, false, false}, {"-9223372036854775808", 0, false, false}, {"-9223372036854775809", 0, false, false}, {"-18446744073709551616", 0, false, false},
	} {
		for ty, is := range map[uint32]bool{anUint: c.isUint, anInt: c.isInt} {
			for _, blanks := range []string{"", " ", "   "} {
				if is {
					holdParse(t, x, ty, blanks+c.s, c.word)
					holdParse(t, x, ty, blanks+c.s+blanks, c.word)
				} else {
					holdNoForm(t, x, ty, blanks+c.s, len(blanks))
					holdNoForm(t, x, ty, blanks+c.s+"x", len(blanks))
				}
			}
		}
	}
}

// P12.4: what is no number in the one form, with a sign or without; the fault is where the row begins, or behind it.
func TestParseNoNumber(t *testing.T) {
	x := table(t)
	for s, at := range map[string]int{
		"": 0, " ": 1, "    ": 4, "-": 0, " -": 1, "--": 0, "--1": 0, "- 1": 0, "-x": 0, "-0": 0, "-00": 0, "-01": 0, "00": 0, "01": 0, "007": 0, "0000000000": 0, "00000000001": 0, " 01": 1, "  -0": 2, "-{": 0,
		"+1": 0, "+": 0, "x": 0, "true": 0, "{1}": 0, ",": 0, "}": 0, ".5": 0, "\t1": 0, "\n1": 0, "\x001": 0, "a1": 0,
		"1x": 1, "0x1": 1, "1.5": 1, "1e3": 1, "1_000": 1, "1,": 1, "1}": 1, "1{": 1, "1-": 1, "1-1": 1, "1 2": 2, "1  -": 3, "12\t": 2, "12\n": 2, "1\x00": 1, "1+": 1, "1/": 1, "1:": 1, "0 0": 2, "0-": 1,
		"\xd9\xa1": 0, "1\xd9\xa1": 1, "\uff11": 0,
	} {
		holdNoForm(t, x, anUint, s, at)
		holdNoForm(t, x, anInt, s, at)
	}
	holdNoForm(t, x, anInt, "-1x", 2)
	holdNoForm(t, x, anInt, "-1-", 2)
	holdNoForm(t, x, anInt, " -12 3", 5)
	holdNoForm(t, x, anUint, "-1x", 0)
}

// P12.4: {, commas and } that lack, or are too many.
func TestParseSigns(t *testing.T) {
	x := table(t)
	holdParse(t, x, aPair, "{1, 2}", 1, 2)
	for s, at := range map[string]int{
		"": 0, " ": 1, "{": 1, "{ ": 2, "{1": 2, "{1 ": 3, "{1,": 3, "{1, ": 4, "{1, 2": 5, "{1, 2 ": 6, "{1, 2} ,": 7,
		"1, 2}": 0, "1": 0, "}": 0, ",": 0, "{}": 1, "{ }": 2, "{,": 1, "{,1,2}": 1, "{1}": 2, "{1 }": 3, "{1 2}": 3, "{1 , 2 }}": 8, "{{1, 2}": 1, "{1{": 2, "{1,,2}": 3, "{1, }": 4, "{1,}": 3, "{1, 2,": 5, "{1, 2,}": 5, "{1, 2, 3}": 5, "{1, 2 3}": 6, "{1, 2{": 5, "{1, 2}}": 6, "{1, 2}{": 6, "{1, 2},": 6, "{1, 2}x": 6, "{1, 2} x": 7, "{1, 2} {1, 2}": 7,
		"(1, 2)": 0, "[1, 2]": 0, "{1; 2}": 2, "{1\t, 2}": 2, "{1,\t2}": 3, "\t{1, 2}": 0, "{1, 2}\n": 6, "{\n1, 2}": 1, "{1, 2\x00}": 5,
		"{01, 2}": 1, "{1, 02}": 4, "{1, -}": 4, "{1, -": 4, "{-, 2}": 1, "{-": 1, "{- 1, 2}": 1, "{1, -0}": 4, "{1, 2147483648}": 4, "{ 2147483648, x": 2, "{x, 2147483648}": 1, "{1, true}": 4, "{true, 1}": 1,
	} {
		holdNoForm(t, x, aPair, s, at)
	}
	holdParse(t, x, aBoxed, "{{true}}", 1)
	for s, at := range map[string]int{"{true}": 1, "true": 0, "{{{true}}}": 2, "{{true}": 7, "{{true": 6, "{{true,": 6, "{{true}}}": 8, "{{}}": 2, "{}": 1, "{{true},": 7, "{{true} }x": 9, "{{tru}}": 5, "{{truee}}": 6} {
		holdNoForm(t, x, aBoxed, s, at)
	}
	holdParse(t, x, anOne, "{-5}", minus(5))
	for s, at := range map[string]int{"-5": 0, "{-5,}": 3, "{-5, -5}": 3, "{}": 1, "{": 1} {
		holdNoForm(t, x, anOne, s, at)
	}
}

// P12.4: values of all kinds.
func TestParseParts(t *testing.T) {
	x := table(t)
	holdParse(t, x, aTruths, "{true, false, false, true}", 1, 0, 0, 1)
	holdParse(t, x, aTriple, "{4294967295,0,7}", math.MaxUint32, 0, 7)
	holdParse(t, x, anArray, "{{true, {2, 3}}, {false, {4, 5}}, {true, {6, 7}}}", 1, 2, 3, 0, 4, 5, 1, 6, 7)
	holdParse(t, x, aMix, "{5, {{true, {2, 3}}, {false, {4, 5}}, {true, {6, 7}}}, {false, true, true, false}, -9, true}", 5, 1, 2, 3, 0, 4, 5, 1, 6, 7, 0, 1, 1, 0, minus(9), 1)
	holdParse(t, x, aDeep, strings.Repeat("{", 15)+"true"+strings.Repeat("}", 15), 1)
	holdParse(t, x, aBits, "{false"+strings.Repeat(",true", 4095)+"}", append(row(0), slices.Repeat(row(1), 4095)...)...)
	// The kind of the part that is next tells what is wanted.
	holdNoForm(t, x, aMix, "{-5, ", 1)
	holdNoForm(t, x, aMix, "{5, {{1", 6)
	holdNoForm(t, x, aMix, "{5, {{true, {2, 3}}, {false, {4, 5}}}", 36)
	holdNoForm(t, x, aMix, "{5, {{true, {2, 3}}, {false, {4, 5}}, {true, {6, 7}}}, {false, true, true, false}, 4294967295", 83)
}

// P12.4: blanks may stand ahead of each truth, number and sign, and behind the last one.
func TestParseBlanks(t *testing.T) {
	x := table(t)
	for _, tokens := range [][]string{
		{"{", "true", ",", "{", "1", ",", "-2", "}", "}"}, {"{", "false", ",", "{", "0", ",", "2147483647", "}", "}"},
	} {
		want, _ := saidParse(x, aStruct, strings.Join(tokens, ""))
		for _, n := range []int{0, 1, 2, 300} {
			blanks := strings.Repeat(" ", n)
			holdParse(t, x, aStruct, blanks+strings.Join(tokens, blanks)+blanks, want...)
			for k := range len(tokens) + 1 {
				holdParse(t, x, aStruct, strings.Join(tokens[:k], "")+blanks+strings.Join(tokens[k:], ""), want...)
			}
		}
	}
	// Within a truth or a number they may not.
	holdNoForm(t, x, aStruct, "{t rue, {1, -2}}", 2)
	holdNoForm(t, x, aStruct, "{true, {1 1, -2}}", 10)
	holdNoForm(t, x, aStruct, "{true, {11, - 2}}", 12)
}

// near are texts that are one byte away from a text: with one less, one other, one more; and those that end at each byte.
func near(s string) []string {
	l := []string{s}
	for k := range len(s) + 1 {
		l = append(l, s[:k])
		for c := range 256 {
			l = append(l, s[:k]+string([]byte{byte(c)})+s[k:])
		}
	}
	for k := range len(s) {
		l = append(l, s[:k]+s[k+1:], s[:k]+s[k:k+1]+s[k:])
		for c := range 256 {
			l = append(l, s[:k]+string([]byte{byte(c)})+s[k+1:])
		}
	}
	return l
}

// P12.4: each byte changed, taken away or doubled, held against the chapter's words; and what is read is read as a value.
func TestParseNear(t *testing.T) {
	x := table(t)
	for _, c := range []struct {
		ty uint32
		l  []string
	}{
		{aBool, []string{"true", "false", " true ", "  false"}},
		{anUint, []string{"0", "7", "10", "4294967295", " 429496729 ", "-1"}},
		{anInt, []string{"0", "-1", "2147483647", "-2147483648", " -214748364 ", "10"}},
		{aPair, []string{"{1, -2}", "{ 10 , 0 }"}},
		{aStruct, []string{"{true, {-1, 5}}", "{ false,{1 ,-2}}", " { true , { 2147483647 , -2147483648 } } "}},
		{aTruths, []string{"{true, false, false, true}"}},
		{aBoxed, []string{"{{true}}", " { { false } } "}},
		{anArray, []string{"{{true, {2, 3}}, {false, {4, 5}}, {true, {6, 7}}}"}},
	} {
		for _, text := range c.l {
			for _, s := range near(text) {
				holdSaidParse(t, x, c.ty, s)
			}
		}
	}
}

// P12.4: all short texts of the bytes that mean something, and of some others.
func TestParseShort(t *testing.T) {
	x := table(t)
	var all func(s string, signs string, left int, ty uint32)
	all = func(s, signs string, left int, ty uint32) {
		holdSaidParse(t, x, ty, s)
		if left == 0 {
			return
		}
		for k := range len(signs) {
			all(s+signs[k:k+1], signs, left-1, ty)
		}
	}
	all("", "-019 x", 5, anInt)
	all("", "-019 x", 5, anUint)
	all("", "{}, -01", 6, anOne)
	all("{0,", "}, -01{", 5, aPair)
	all("", "truefals ", 5, aBool)
	all("{{", "truefals}", 4, aBoxed)
}

// P12.4: texts that are very long are told as fast.
func TestParseLong(t *testing.T) {
	x := table(t)
	const n = 1 << 21
	long := func(s string) string { return strings.Repeat(s, n) }
	holdNoForm(t, x, anInt, long(" "), n)
	holdNoForm(t, x, anInt, long("1"), 0)
	holdNoForm(t, x, anInt, long("0"), 0)
	holdNoForm(t, x, anInt, "-"+long("0"), 0)
	holdNoForm(t, x, anInt, long("-"), 0)
	holdNoForm(t, x, aDeep, long("{"), 15)
	holdNoForm(t, x, aBool, long("true"), 4)
	holdParse(t, x, aBool, long(" ")+"true"+long(" "), 1)
	holdParse(t, x, aPair, long(" ")+"{"+long(" ")+"1"+long(" ")+","+long(" ")+"2"+long(" ")+"}"+long(" "), 1, 2)
	holdNoForm(t, x, aPair, long(" ")+"{"+long(" ")+"1"+long(" ")+"x", 3*n+2)
}

// P12.4: of what is no plain type no text is read.
func TestParseNoType(t *testing.T) {
	x := table(t)
	for _, ty := range otherIds() {
		for _, s := range []string{"", "{}", "true", "1", "{", " x", "void"} {
			if w, spot := Parse(x, ty, s); len(w) != 0 || spot != (api.Spot{Err: api.ErrNoType}) {
				t.Errorf("Parse of %d, %q: %v, %v", ty, s, w, spot)
			}
		}
	}
}
